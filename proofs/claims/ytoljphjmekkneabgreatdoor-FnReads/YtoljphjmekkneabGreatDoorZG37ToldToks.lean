/- Plain facts: data that are told are read as they were. No conditions. -/
import Derived.Test.YtoljphjmekkneabGreatDoorZG12ReadToks
import Derived.Test.YtoljphjmekkneabGreatDoorZG36DatTell
namespace Go.Proofs.YtoljphjmekkneabGreatDoor
open Go.ChangeShapes Go.WideShapes Go.ChangeAt Go.RowKit

theorem empty_list : ((⟨#[]⟩ : ByteArray).toList == []) = true := by kernel_rfl

/-- A token but for its place. -/
abbrev Bare := Int × Int × ByteArray
def Tok.bare (t : Tok) : Bare := (t.kind, t.n, t.text)

def flatFrom (f : Nat → List Bare) : Nat → Nat → List Bare
  | _, 0 => []
  | k, m + 1 => f k ++ flatFrom f (k + 1) m

/-- A datum's tokens. -/
def D.toks : D → List Bare
  | .no => []
  | .mk op _ n s len kid => if op = 1 then [(3, n, ⟨(Lib.itoa n).toArray⟩)] else if op = 2 then [(4, 0, s)] else (1, 0, ⟨#[40]⟩) :: (flatFrom (fun i => (kid i).toks) 0 len ++ [(2, 0, ⟨#[41]⟩)])

/-- The same but for places, and right. -/
structure LikeD (d' d : D) : Prop where
  same : sameD d' d = true
  right : rightB d' = true
  deep : d'.deep = d.deep
  count : d'.count = d.count

theorem right_kids {t : D} (h : rightB t = true) : ∀ i, i < t.len → rightB (t.kid i) = true := by
  rw [rightB_eq, Bool.and_eq_true, allTo_true] at h
  exact h.1
theorem right_fields {t : D} (h : rightB t = true) : fieldsB t = true := by
  rw [rightB_eq, Bool.and_eq_true] at h
  exact h.2

theorem D.toks_first (t : D) (h : rightB t = true) : ∃ b r, t.toks = b :: r ∧ b.1 ≠ 2 := by
  cases t with
  | no => exact absurd (right_fields h) (by decide)
  | mk op a n s len kid =>
    unfold D.toks
    split
    · exact ⟨_, _, rfl, by show (3 : Int) ≠ 2; decide⟩
    · split
      · exact ⟨_, _, rfl, by show (4 : Int) ≠ 2; decide⟩
      · exact ⟨_, _, rfl, by show (1 : Int) ≠ 2; decide⟩

theorem toks_pos (t : D) (h : rightB t = true) : 1 ≤ t.toks.length := by
  obtain ⟨b, r, e, _⟩ := t.toks_first h
  rw [e]; simp

theorem flat_len (kid : Nat → D) : ∀ (m k : Nat), (∀ i, k ≤ i → i < k + m → rightB (kid i) = true) → m ≤ (flatFrom (fun i => (kid i).toks) k m).length := by
  intro m
  induction m with
  | zero => intro k _; simp
  | succ m ih =>
    intro k h
    have h1 := toks_pos (kid k) (h k (Nat.le_refl _) (by omega))
    have h2 := ih (k + 1) (fun i a b => h i (by omega) (by omega))
    simp only [flatFrom, List.length_append]
    omega

def OneReads (E : Int) (f : Nat) (t : D) : Prop := ∀ (ts : List Tok) (r : List Bare), ts.map Tok.bare = t.toks ++ r → ∃ d' r', one E f ts = .ok d' r' ∧ r'.map Tok.bare = r ∧ LikeD d' t

theorem kids_reads (E : Int) (f : Nat) (kid : Nat → D) : ∀ (m k : Nat), (∀ i, k ≤ i → i < k + m → OneReads E f (kid i) ∧ rightB (kid i) = true) →
    ∀ (M : Nat) (acc : List D) (ts : List Tok) (r : List Bare), m < M → ts.map Tok.bare = flatFrom (fun i => (kid i).toks) k m ++ (2, 0, ⟨#[41]⟩) :: r →
    ∃ ds r', kidsL E (one E f) M acc ts = .ok (acc ++ ds) r' ∧ r'.map Tok.bare = r ∧ ds.length = m ∧ ∀ i (h : i < ds.length), LikeD ds[i] (kid (k + i)) := by
  intro m
  induction m with
  | zero =>
    intro k _ M acc ts r hM hts
    obtain ⟨M, rfl⟩ : ∃ n, M = n + 1 := ⟨M - 1, by omega⟩
    cases ts with
    | nil => simp [flatFrom] at hts
    | cons t ts =>
      simp only [flatFrom, List.nil_append, List.map_cons, List.cons.injEq] at hts
      have hk : t.kind = 2 := congrArg Prod.fst hts.1
      refine ⟨[], ts, ?_, hts.2, rfl, fun i h => by simp at h⟩
      unfold kidsL
      rw [if_pos hk, List.append_nil]
  | succ m ih =>
    intro k hkid M acc ts r hM hts
    obtain ⟨M, rfl⟩ : ∃ n, M = n + 1 := ⟨M - 1, by omega⟩
    obtain ⟨hone, hright⟩ := hkid k (Nat.le_refl _) (by omega)
    simp only [flatFrom, List.append_assoc] at hts
    obtain ⟨d', r1, h1, h2, h3⟩ := hone ts _ hts
    obtain ⟨b, q, hb, hb2⟩ := (kid k).toks_first hright
    cases ts with
    | nil => rw [hb] at hts; simp at hts
    | cons t ts =>
      have hk : t.kind ≠ 2 := by
        rw [hb] at hts
        simp only [List.map_cons, List.cons_append, List.cons.injEq] at hts
        have : t.kind = b.1 := congrArg Prod.fst hts.1
        rw [this]; exact hb2
      obtain ⟨ds, r', g1, g2, g3, g4⟩ := ih (k + 1) (fun i a c => hkid i (by omega) (by omega)) M (acc ++ [d']) r1 r (by omega) h2
      refine ⟨d' :: ds, r', ?_, g2, by simp [g3], ?_⟩
      · conv => lhs; unfold kidsL
        rw [if_neg hk, h1]
        simp only
        rw [g1, List.append_assoc]
        rfl
      · intro i hi
        cases i with
        | zero => exact h3
        | succ i =>
          have := g4 i (by simpa using hi)
          rw [show k + (i + 1) = k + 1 + i from by omega]
          exact this

theorem maxTo_congr {f g : Nat → Nat} {k : Nat} (h : ∀ i, i < k → f i = g i) : maxTo f k = maxTo g k := by
  induction k with
  | zero => rfl
  | succ k ih => simp only [maxTo]; rw [ih (fun i hi => h i (by omega)), h k (by omega)]
theorem sumTo_congr {f g : Nat → Nat} {k : Nat} (h : ∀ i, i < k → f i = g i) : sumTo f k = sumTo g k := by
  induction k with
  | zero => rfl
  | succ k ih => simp only [sumTo]; rw [ih (fun i hi => h i (by omega)), h k (by omega)]

theorem kidsOf_at (ds : List D) (i : Nat) (h : i < ds.length) : kidsOf ds i = ds[i] := by
  unfold kidsOf
  rw [List.getD_eq_getElem?_getD, List.getElem?_eq_getElem h]
  rfl

theorem one_reads (E : Int) (t : D) : ∀ f, t.deep ≤ f → rightB t = true → OneReads E f t := by
  induction t with
  | no => intro f _ h; exact absurd (right_fields h) (by decide)
  | mk op a n s len kid ih =>
    intro f hf hr ts r hts
    have hfl : fB a op (decide (-1073741824 ≤ n ∧ n ≤ 1073741823)) (symB s.data.toList) (s.toList == []) (n == 0) ((len : Int) == 0) = true := right_fields hr
    have hdp : (D.mk op a n s len kid).deep = maxTo (fun i => (kid i).deep) len + 1 := rfl
    obtain ⟨f, rfl⟩ : ∃ g, f = g + 1 := ⟨f - 1, by omega⟩
    unfold fB at hfl
    rw [Bool.and_eq_true] at hfl
    obtain ⟨ha, hfl⟩ := hfl
    have hk0 : ∀ i, i < len → rightB (kid i) = true := right_kids hr
    unfold D.toks at hts
    by_cases h1 : op = 1
    · rw [if_pos h1] at hts hfl
      cases ts with
      | nil => simp at hts
      | cons t ts =>
        simp only [List.map_cons, List.cons_append, List.nil_append, List.cons.injEq] at hts
        obtain ⟨⟨k1, k2, k3⟩, k4⟩ : (t.kind = 3 ∧ t.n = n ∧ t.text = ⟨(Lib.itoa n).toArray⟩) ∧ ts.map Tok.bare = r := ⟨⟨congrArg Prod.fst hts.1, congrArg (fun p => p.2.1) hts.1, congrArg (fun p => p.2.2) hts.1⟩, hts.2⟩
        simp only [Bool.and_eq_true, decide_eq_true_eq, beq_iff_eq] at hfl
        obtain ⟨hn, hs, hl⟩ := hfl
        have hl0 : len = 0 := by omega
        subst hl0
        refine ⟨dNum t, ts, by unfold one; rw [if_pos k1], k4, ?_, ?_, rfl, rfl⟩
        · rw [sameD_eq, Bool.and_eq_true]
          refine ⟨?_, rfl⟩
          unfold headB
          simp only [dNum, D.op, D.n, D.s, D.len, k2, hs, h1, Bool.and_eq_true, beq_self_eq_true, true_and, and_true]
          exact empty_list
        · rw [rightB_eq, Bool.and_eq_true]
          refine ⟨rfl, ?_⟩
          show fB t.at_ 1 (decide (-1073741824 ≤ t.n ∧ t.n ≤ 1073741823)) _ _ _ _ = true
          unfold fB
          rw [k2, if_pos rfl, Bool.and_eq_true, Bool.and_eq_true, Bool.and_eq_true]
          exact ⟨decide_eq_true (by omega), decide_eq_true hn, empty_list, rfl⟩
    · rw [if_neg h1] at hts hfl
      by_cases h2 : op = 2
      · rw [if_pos h2] at hts hfl
        cases ts with
        | nil => simp at hts
        | cons t ts =>
          simp only [List.map_cons, List.cons_append, List.nil_append, List.cons.injEq] at hts
          obtain ⟨⟨k1, k2, k3⟩, k4⟩ : (t.kind = 4 ∧ t.n = 0 ∧ t.text = s) ∧ ts.map Tok.bare = r := ⟨⟨congrArg Prod.fst hts.1, congrArg (fun p => p.2.1) hts.1, congrArg (fun p => p.2.2) hts.1⟩, hts.2⟩
          simp only [Bool.and_eq_true, beq_iff_eq] at hfl
          obtain ⟨hs, hn, hl⟩ := hfl
          have hl0 : len = 0 := by omega
          subst hl0
          refine ⟨dSym t, ts, by unfold one; rw [if_neg (by omega), if_pos k1], k4, ?_, ?_, rfl, rfl⟩
          · rw [sameD_eq, Bool.and_eq_true]
            refine ⟨?_, rfl⟩
            unfold headB
            simp only [dSym, D.op, D.n, D.s, D.len, k3, hn, h2, Bool.and_eq_true, beq_self_eq_true, and_true]
          · rw [rightB_eq, Bool.and_eq_true]
            refine ⟨rfl, ?_⟩
            show fB t.at_ 2 _ (symB t.text.data.toList) _ _ _ = true
            unfold fB
            rw [k3, if_neg (by omega), if_pos rfl, Bool.and_eq_true, Bool.and_eq_true, Bool.and_eq_true]
            exact ⟨decide_eq_true (by omega), hs, rfl, rfl⟩
      · rw [if_neg h2] at hts hfl
        have h3 : op = 3 := by
          by_cases h : op = 3
          · exact h
          · rw [if_neg h] at hfl; cases hfl
        rw [if_pos h3, Bool.and_eq_true, beq_iff_eq, beq_iff_eq] at hfl
        cases ts with
        | nil => simp at hts
        | cons t ts =>
          simp only [List.map_cons, List.cons_append, List.append_assoc, List.nil_append, List.cons.injEq] at hts
          have k1 : t.kind = 1 := congrArg Prod.fst hts.1
          have hdk : ∀ i, i < len → (kid i).deep ≤ f := by
            have : maxTo (fun i => (kid i).deep) len ≤ f := by omega
            exact maxTo_le.1 this
          have hlen : len ≤ ts.length := by
            have h := flat_len kid len 0 (fun i _ hi => hk0 i (by omega))
            have e := congrArg List.length hts.2
            simp only [List.length_map, List.length_append, List.length_cons] at e
            omega
          obtain ⟨ds, r', g1, g2, g3, g4⟩ := kids_reads E f kid len 0 (fun i _ hi => ⟨ih i f (hdk i (by omega)) (hk0 i (by omega)), hk0 i (by omega)⟩) (ts.length + 1) [] ts r (by omega) hts.2
          rw [List.nil_append] at g1
          subst g3
          have gl : ∀ i, i < ds.length → LikeD (kidsOf ds i) (kid i) := fun i hi => by
            rw [kidsOf_at ds i hi]
            have := g4 i hi
            rwa [Nat.zero_add] at this
          refine ⟨dList t ds, r', ?_, g2, ?_, ?_, ?_, ?_⟩
          · unfold one
            rw [if_neg (by omega), if_neg (by omega), if_neg (by omega), g1]
          · rw [sameD_eq, Bool.and_eq_true, allTo_true]
            refine ⟨?_, fun i hi => (gl i hi).same⟩
            unfold headB
            simp only [dList, D.op, D.n, D.s, D.len, hfl.1, hfl.2, h3, Bool.and_eq_true, beq_self_eq_true, true_and, and_true]
            exact empty_list
          · rw [rightB_eq, Bool.and_eq_true, allTo_true]
            refine ⟨fun i hi => (gl i hi).right, ?_⟩
            show fB t.at_ 3 _ _ _ _ _ = true
            unfold fB
            rw [if_neg (by omega), if_neg (by omega), if_pos rfl, Bool.and_eq_true, Bool.and_eq_true]
            exact ⟨decide_eq_true (by omega), rfl, empty_list⟩
          · show maxTo _ ds.length + 1 = maxTo _ ds.length + 1
            rw [maxTo_congr (fun i hi => (gl i hi).deep)]
          · show 1 + sumTo _ ds.length = 1 + sumTo _ ds.length
            rw [sumTo_congr (fun i hi => (gl i hi).count)]

theorem flat_at (kid : Nat → D) : ∀ (m k i : Nat), k ≤ i → i < k + m → (kid i).toks.length ≤ (flatFrom (fun i => (kid i).toks) k m).length := by
  intro m
  induction m with
  | zero => intro k i h1 h2; omega
  | succ m ih =>
    intro k i h1 h2
    simp only [flatFrom, List.length_append]
    by_cases h : i = k
    · subst h; omega
    · have := ih (k + 1) i (by omega) (by omega)
      omega

theorem deep_toks (t : D) : rightB t = true → t.deep ≤ t.toks.length := by
  induction t with
  | no => intro h; exact absurd (right_fields h) (by decide)
  | mk op a n s len kid ih =>
    intro hr
    have hp := toks_pos _ hr
    have hk0 : ∀ i, i < len → rightB (kid i) = true := right_kids hr
    have hdp : (D.mk op a n s len kid).deep = maxTo (fun i => (kid i).deep) len + 1 := rfl
    have hfl : fB a op (decide (-1073741824 ≤ n ∧ n ≤ 1073741823)) (symB s.data.toList) (s.toList == []) (n == 0) ((len : Int) == 0) = true := right_fields hr
    rw [hdp]
    by_cases h0 : len = 0
    · subst h0
      simp only [maxTo]
      omega
    · have h12 : op ≠ 1 ∧ op ≠ 2 := by
        unfold fB at hfl
        rw [Bool.and_eq_true] at hfl
        have hfl := hfl.2
        refine ⟨fun h => ?_, fun h => ?_⟩
        · rw [if_pos h] at hfl
          simp only [Bool.and_eq_true, beq_iff_eq] at hfl
          omega
        · rw [if_neg (by omega), if_pos h] at hfl
          simp only [Bool.and_eq_true, beq_iff_eq] at hfl
          omega
      have : maxTo (fun i => (kid i).deep) len ≤ (flatFrom (fun i => (kid i).toks) 0 len).length := by
        rw [maxTo_le]
        intro i hi
        have h1 := ih i (hk0 i hi)
        have h2 := flat_at kid len 0 i (Nat.zero_le _) (by omega)
        omega
      unfold D.toks
      rw [if_neg h12.1, if_neg h12.2]
      simp only [List.length_cons, List.length_append]
      omega

theorem rest_reads (E : Int) (f : Nat) (kid : Nat → D) : ∀ (m k : Nat), (∀ i, k ≤ i → i < k + m → OneReads E f (kid i) ∧ rightB (kid i) = true) →
    ∀ (M : Nat) (acc : List D) (ts : List Tok), m ≤ M → ts.map Tok.bare = flatFrom (fun i => (kid i).toks) k m →
    ∃ ds, restL (one E f) M acc ts = .ok (acc ++ ds) [] ∧ ds.length = m ∧ ∀ i (h : i < ds.length), LikeD ds[i] (kid (k + i)) := by
  intro m
  induction m with
  | zero =>
    intro k _ M acc ts hM hts
    cases ts with
    | nil =>
      refine ⟨[], ?_, rfl, fun i h => by simp at h⟩
      cases M <;> simp [restL]
    | cons t ts => simp [flatFrom] at hts
  | succ m ih =>
    intro k hkid M acc ts hM hts
    obtain ⟨M, rfl⟩ : ∃ n, M = n + 1 := ⟨M - 1, by omega⟩
    obtain ⟨hone, hright⟩ := hkid k (Nat.le_refl _) (by omega)
    simp only [flatFrom] at hts
    obtain ⟨d', r1, h1, h2, h3⟩ := hone ts _ hts
    obtain ⟨b, q, hb, hb2⟩ := (kid k).toks_first hright
    cases ts with
    | nil => rw [hb] at hts; simp at hts
    | cons t ts =>
      obtain ⟨ds, g1, g3, g4⟩ := ih (k + 1) (fun i a c => hkid i (by omega) (by omega)) M (acc ++ [d']) r1 (by omega) h2
      refine ⟨d' :: ds, ?_, by simp [g3], ?_⟩
      · conv => lhs; unfold restL
        rw [h1]
        simp only
        rw [g1, List.append_assoc]
        rfl
      · intro i hi
        cases i with
        | zero => exact h3
        | succ i =>
          have := g4 i (by simpa using hi)
          rw [show k + (i + 1) = k + 1 + i from by omega]
          exact this

theorem read_told (E : Int) (ds : List D) (hb : datsB ds.length (kidsOf ds) = true) (ts : List Tok) (hts : ts.map Tok.bare = flatFrom (fun i => (kidsOf ds i).toks) 0 ds.length) :
    ∃ ds', readL E ts = .ok ds' [] ∧ ds'.length = ds.length ∧ (∀ i, i < ds.length → LikeD (kidsOf ds' i) (kidsOf ds i)) ∧ datsB ds'.length (kidsOf ds') = true := by
  have hb' := hb
  unfold datsB at hb'
  rw [Bool.and_eq_true, allTo_true, decide_eq_true_eq] at hb'
  obtain ⟨h1, h2⟩ := hb'
  have hk : ∀ i, i < ds.length → (kidsOf ds i).deep ≤ 20 ∧ rightB (kidsOf ds i) = true := fun i hi => by
    have := h1 i hi
    rw [Bool.and_eq_true, decide_eq_true_eq] at this
    exact this
  have hdeep : ∀ i, i < ds.length → (kidsOf ds i).deep ≤ ts.length + 1 := by
    intro i hi
    have h1 := deep_toks (kidsOf ds i) (hk i hi).2
    have h2 := flat_at (kidsOf ds) ds.length 0 i (Nat.zero_le _) (by omega)
    have e := congrArg List.length hts
    simp only [List.length_map] at e
    omega
  have hlen : ds.length ≤ ts.length := by
    have h := flat_len (kidsOf ds) ds.length 0 (fun i _ hi => (hk i (by omega)).2)
    have e := congrArg List.length hts
    simp only [List.length_map] at e
    omega
  obtain ⟨ds', g1, g2, g3⟩ := rest_reads E (ts.length + 1) (kidsOf ds) ds.length 0 (fun i _ hi => ⟨one_reads E _ _ (hdeep i (by omega)) (hk i (by omega)).2, (hk i (by omega)).2⟩) (ts.length + 1) [] ts (by omega) hts
  rw [List.nil_append] at g1
  have gl : ∀ i, i < ds.length → LikeD (kidsOf ds' i) (kidsOf ds i) := fun i hi => by
    rw [kidsOf_at ds' i (by omega)]
    have := g3 i (by omega)
    rwa [Nat.zero_add] at this
  refine ⟨ds', g1, g2, gl, ?_⟩
  unfold datsB
  rw [g2, Bool.and_eq_true, allTo_true, decide_eq_true_eq]
  refine ⟨fun i hi => ?_, ?_⟩
  · rw [Bool.and_eq_true, decide_eq_true_eq, (gl i hi).deep]
    exact ⟨(hk i hi).1, (gl i hi).right⟩
  · rw [sumTo_congr (fun i hi => (gl i hi).count)]
    exact h2
end Go.Proofs.YtoljphjmekkneabGreatDoor

/- Plain facts: the tokens of a text that data were told to. No conditions. -/
namespace Go.Proofs.YtoljphjmekkneabGreatDoor
open Go.ChangeShapes Go.WideShapes Go.ChangeAt Go.RowKit

theorem size_list (s : ByteArray) : s.size = s.data.toList.length := rfl
theorem at_list (s : ByteArray) (i : Nat) (h : i < s.size) : s[i]'h = s.data.toList[i]'h := rfl

theorem drop_at {s : ByteArray} {p : Nat} {l : List UInt8} (h : s.data.toList.drop p = l) (j : Nat) (hj : j < l.length) : ∃ hp : p + j < s.size, s[p + j]'hp = l[j] := by
  have hl : p + j < s.data.toList.length := by
    have := congrArg List.length h
    simp only [List.length_drop] at this
    omega
  refine ⟨hl, ?_⟩
  rw [at_list]
  subst h
  rw [List.getElem_drop]

theorem extract_list {s : ByteArray} {p : Nat} {wd l : List UInt8} (h : s.data.toList.drop p = wd ++ l) : s.extract p (p + wd.length) = ⟨wd.toArray⟩ := by
  apply ByteArray.ext
  rw [ByteArray.data_extract]
  apply Array.toList_inj.1
  rw [Array.toList_extract, List.extract_eq_drop_take', List.drop_take, h]
  simp

theorem told_word (s : ByteArray) (acc : List Tok) (p : Nat) (wd : List UInt8) (c : UInt8) (l : List UInt8) (h : s.data.toList.drop p = wd ++ c :: l) (hw : 1 ≤ wd.length) (hn : ∀ x ∈ wd, partB x = false) (hc : partB c = true) (t : Tok) (ht : tokOf ⟨wd.toArray⟩ p = some t) :
    rest s acc p p = rest s (acc ++ [t] ++ brack c (p + wd.length)) (p + wd.length + 1) (p + wd.length + 1) := by
  have hsz : p + wd.length < s.size := by
    have := congrArg List.length h
    simp only [List.length_drop, List.length_append, List.length_cons] at this
    rw [size_list]; omega
  have hcc : s[p + wd.length]'hsz = c := by
    obtain ⟨hp, e⟩ := drop_at h wd.length (by simp)
    rw [e]; simp
  rw [rest_others s acc p p wd.length (by omega) (fun j hj => by
    obtain ⟨hp, e⟩ := drop_at h j (by simp; omega)
    rw [e, List.getElem_append_left hj]
    exact hn _ (List.getElem_mem hj))]
  rw [rest_end s acc p (p + wd.length) (by omega) (fun _ => by rw [hcc]; exact hc), extract_list h, ht]
  simp only
  rw [rest_part s _ (p + wd.length) hsz (by rw [hcc]; exact hc), hcc]

theorem rest_sign (s : ByteArray) (acc : List Tok) (p : Nat) (c : UInt8) (l : List UInt8) (h : s.data.toList.drop p = c :: l) (hc : partB c = true) :
    rest s acc p p = rest s (acc ++ brack c p) (p + 1) (p + 1) := by
  obtain ⟨hp, e⟩ := drop_at h 0 (by simp)
  have e' : s[p]'hp = c := e
  rw [rest_part s acc p hp (by rw [e']; exact hc), e']

theorem drop_more {s : ByteArray} {p : Nat} {a l : List UInt8} (h : s.data.toList.drop p = a ++ l) : s.data.toList.drop (p + a.length) = l := by
  rw [← List.drop_drop, h]
  simp

theorem dig_part {c : UInt8} (h : isDig c) : partB c = false := by
  unfold isDig at h
  cases e : partB c with
  | false => rfl
  | true => rcases part_cases e with h1 | h1 | h1 | h1
            · omega
            · omega
            · subst h1; simp at h
            · subst h1; simp at h

theorem itoa_part (n : Int) : ∀ x ∈ Lib.itoa n, partB x = false := by
  intro x hx
  by_cases h : n < 0
  · rw [itoa_neg n h] at hx
    rcases List.mem_cons.1 hx with rfl | hx
    · decide
    · exact dig_part (dig_decDigits _ x hx)
  · rw [itoa_val n (by omega)] at hx
    exact dig_part (dig_decDigits _ x hx)

theorem name_part {c : UInt8} (h : nameB c = true) : partB c = false := by
  cases e : partB c with
  | false => rfl
  | true =>
    have key : ∀ d : UInt8, nameB d = false → c ≠ d := fun d hd e => by rw [e, hd] at h; cases h
    rcases part_cases e with h1 | h1 | h1 | h1
    · exact absurd (UInt8.toNat_inj.1 (show c.toNat = (32 : UInt8).toNat from h1)) (key 32 (by decide))
    · exact absurd (UInt8.toNat_inj.1 (show c.toNat = (10 : UInt8).toNat from h1)) (key 10 (by decide))
    · exact absurd h1 (key 40 (by decide))
    · exact absurd h1 (key 41 (by decide))

theorem dig_digB {c : UInt8} (h : isDig c) : digB c = true := by
  unfold isDig at h
  unfold digB
  simp [h.1, h.2]

theorem dec_first (v : Nat) : ∃ c r, Lib.decDigits v = c :: r ∧ digB c = true := by
  have h1 := len_pos_decDigits v
  have h2 := dig_decDigits v
  cases e : Lib.decDigits v with
  | nil => rw [e] at h1; simp at h1
  | cons c r => exact ⟨c, r, rfl, dig_digB (h2 c (by rw [e]; simp))⟩

theorem itoa_beg (n : Int) : begNum (Lib.itoa n) = true := by
  by_cases h : n < 0
  · rw [itoa_neg n h]
    obtain ⟨c, r, e, hc⟩ := dec_first n.natAbs
    rw [e]
    simp [begNum, hc]
  · rw [itoa_val n (by omega)]
    obtain ⟨c, r, e, hc⟩ := dec_first n.toNat
    rw [e]
    simp [begNum, hc]

theorem itoa_pos (n : Int) : 1 ≤ (Lib.itoa n).length := by
  by_cases h : n < 0
  · rw [itoa_neg n h]; simp
  · rw [itoa_val n (by omega)]; exact len_pos_decDigits _

theorem tok_num (n : Int) (h0 : -1073741824 ≤ n) (h1 : n ≤ 1073741823) (p : Nat) : tokOf ⟨(Lib.itoa n).toArray⟩ p = some ⟨3, p, n, ⟨(Lib.itoa n).toArray⟩⟩ := by
  unfold tokOf
  rw [wordV_of h0 h1 rfl]

theorem tok_sym (s : ByteArray) (h : symB s.data.toList = true) (p : Nat) : tokOf s p = some ⟨4, p, 0, s⟩ := by
  unfold tokOf
  have hb : begNum s.data.toList = false := by
    unfold symB at h
    simp only [Bool.and_eq_true, Bool.not_eq_true'] at h
    exact h.1.2
  rw [wordV_none (fun v h0 h1 e => by rw [← e, itoa_beg] at hb; cases hb)]
  simp only [h, if_true]

theorem sym_parts {l : List UInt8} (h : symB l = true) : 1 ≤ l.length ∧ ∀ x ∈ l, partB x = false := by
  unfold symB at h
  simp only [Bool.and_eq_true, decide_eq_true_eq, List.all_eq_true] at h
  exact ⟨h.1.1.1, fun x hx => name_part (h.2 x hx)⟩

/-- A datum's text, and a sign that parts behind it, are its tokens. -/
def Told (t : D) : Prop := ∀ (s : ByteArray) (acc : List Tok) (p : Nat) (c : UInt8) (l : List UInt8), s.data.toList.drop p = t.text ++ c :: l → partB c = true →
  ∃ ts, ts.map Tok.bare = t.toks ∧ rest s acc p p = rest s (acc ++ ts ++ brack c (p + t.text.length)) (p + t.text.length + 1) (p + t.text.length + 1)

theorem told_kids (kid : Nat → D) : ∀ (m k : Nat), (∀ i, k ≤ i → i < k + (m + 1) → Told (kid i)) → ∀ (s : ByteArray) (acc : List Tok) (p : Nat) (l : List UInt8), s.data.toList.drop p = (kid k).text ++ (joinFrom (fun i => (kid i).text) (k + 1) m ++ 41 :: l) →
    ∃ ts q, ts.map Tok.bare = flatFrom (fun i => (kid i).toks) k (m + 1) ∧ q = p + ((kid k).text ++ joinFrom (fun i => (kid i).text) (k + 1) m).length ∧ rest s acc p p = rest s (acc ++ ts ++ brack 41 q) (q + 1) (q + 1) := by
  intro m
  induction m with
  | zero =>
    intro k h s acc p l hl
    obtain ⟨ts, h1, h2⟩ := h k (Nat.le_refl _) (by omega) s acc p 41 l hl (by decide)
    exact ⟨ts, p + (kid k).text.length, by simp [flatFrom, h1], by simp [joinFrom], h2⟩
  | succ m ih =>
    intro k h s acc p l hl
    have hj : joinFrom (fun i => (kid i).text) (k + 1) (m + 1) = 32 :: ((kid (k + 1)).text ++ joinFrom (fun i => (kid i).text) (k + 2) m) := by
      simp [joinFrom, sep]
    rw [hj] at hl ⊢
    have hl2 : s.data.toList.drop p = (kid k).text ++ 32 :: ((kid (k + 1)).text ++ (joinFrom (fun i => (kid i).text) (k + 2) m ++ 41 :: l)) := by
      rw [hl]; simp
    obtain ⟨ts, h1, h2⟩ := h k (Nat.le_refl _) (by omega) s acc p 32 _ hl2 (by decide)
    have hl3 : s.data.toList.drop (p + (kid k).text.length + 1) = (kid (k + 1)).text ++ (joinFrom (fun i => (kid i).text) (k + 2) m ++ 41 :: l) := by
      have := drop_more (a := (kid k).text ++ [32]) (l := (kid (k + 1)).text ++ (joinFrom (fun i => (kid i).text) (k + 2) m ++ 41 :: l)) (by rw [hl2]; simp) (s := s) (p := p)
      rw [List.length_append, List.length_singleton] at this
      rw [← this]; rfl
    obtain ⟨ts2, q, g1, g2, g3⟩ := ih (k + 1) (fun i a b => h i (by omega) (by omega)) s (acc ++ ts) (p + (kid k).text.length + 1) l hl3
    have g2' : q = p + (kid k).text.length + 1 + ((kid (k + 1)).text ++ joinFrom (fun i => (kid i).text) (k + 2) m).length := g2
    refine ⟨ts ++ ts2, q, ?_, ?_, ?_⟩
    · rw [List.map_append, h1, g1]; rfl
    · rw [g2']; simp only [List.length_append, List.length_cons]; omega
    · rw [h2, brack_blank (.inl rfl), List.append_nil, g3, List.append_assoc acc ts ts2]

theorem told_one (t : D) : rightB t = true → Told t := by
  induction t with
  | no => intro h; exact absurd (right_fields h) (by decide)
  | mk op a n x len kid ih =>
    intro hr s acc p c l hl hc
    have hfl : fB a op (decide (-1073741824 ≤ n ∧ n ≤ 1073741823)) (symB x.data.toList) (x.toList == []) (n == 0) ((len : Int) == 0) = true := right_fields hr
    have hk0 : ∀ i, i < len → rightB (kid i) = true := right_kids hr
    unfold fB at hfl
    rw [Bool.and_eq_true] at hfl
    have hfl := hfl.2
    rw [D.text_mk] at hl ⊢
    unfold D.toks
    by_cases h1 : op = 1
    · rw [if_pos h1] at hfl hl ⊢
      rw [if_pos h1]
      simp only [Bool.and_eq_true, decide_eq_true_eq] at hfl
      exact ⟨[_], rfl, told_word s acc p (Lib.itoa n) c l hl (itoa_pos n) (itoa_part n) hc _ (tok_num n hfl.1.1 hfl.1.2 p)⟩
    · rw [if_neg h1] at hfl hl ⊢
      rw [if_neg h1]
      by_cases h2 : op = 2
      · rw [if_pos h2] at hfl hl ⊢
        rw [if_pos h2]
        simp only [Bool.and_eq_true] at hfl
        have hs := sym_parts hfl.1
        exact ⟨[_], rfl, told_word s acc p x.data.toList c l hl hs.1 hs.2 hc _ (tok_sym x hfl.1 p)⟩
      · rw [if_neg h2] at hfl hl ⊢
        rw [if_neg h2]
        have h3 : op = 3 := by
          by_cases h : op = 3
          · exact h
          · rw [if_neg h] at hfl; cases hfl
        rw [if_pos h3] at hl ⊢
        rw [join_all] at hl ⊢
        have hb := rest_sign s acc p 40 (joinFrom (fun i => (kid i).text) 0 len ++ 41 :: c :: l) (by rw [hl]; simp) (by decide)
        have hl1 : s.data.toList.drop (p + 1) = joinFrom (fun i => (kid i).text) 0 len ++ 41 :: c :: l := drop_more (a := [40]) (by rw [hl]; simp)
        cases len with
        | zero =>
          have hl1' : s.data.toList.drop (p + 1) = 41 :: c :: l := by rw [hl1]; simp [joinFrom]
          have hb2 := rest_sign s (acc ++ brack 40 p) (p + 1) 41 (c :: l) hl1' (by decide)
          have hb3 := rest_sign s (acc ++ brack 40 p ++ brack 41 (p + 1)) (p + 1 + 1) c l (drop_more (a := [41]) (by rw [hl1']; rfl)) hc
          refine ⟨[⟨1, p, 0, ⟨#[40]⟩⟩, ⟨2, p + 1, 0, ⟨#[41]⟩⟩], by simp [flatFrom, Tok.bare], ?_⟩
          rw [hb, hb2, hb3]
          simp [joinFrom, brack]
        | succ m =>
          have hj : joinFrom (fun i => (kid i).text) 0 (m + 1) = (kid 0).text ++ joinFrom (fun i => (kid i).text) 1 m := by simp [joinFrom, sep]
          rw [hj] at hl1 ⊢
          obtain ⟨ts, q, g1, g2, g3⟩ := told_kids kid m 0 (fun i _ hi => ih i (hk0 i (by omega))) s (acc ++ brack 40 p) (p + 1) (c :: l) (by rw [hl1]; simp)
          have g2' : q = p + 1 + ((kid 0).text ++ joinFrom (fun i => (kid i).text) 1 m).length := g2
          have hl2 : s.data.toList.drop (q + 1) = c :: l := by
            have := drop_more (s := s) (p := p + 1) (a := (kid 0).text ++ joinFrom (fun i => (kid i).text) 1 m ++ [41]) (l := c :: l) (by rw [hl1]; simp)
            rw [List.length_append, List.length_singleton] at this
            rw [g2, ← this]; rfl
          have hb3 := rest_sign s (acc ++ brack 40 p ++ ts ++ brack 41 q) (q + 1) c l hl2 hc
          refine ⟨⟨1, p, 0, ⟨#[40]⟩⟩ :: (ts ++ [⟨2, q, 0, ⟨#[41]⟩⟩]), ?_, ?_⟩
          · simp only [List.map_cons, List.map_append, g1, List.map_nil]
            rfl
          · rw [hb, g3, hb3]
            have e1 : p + (40 :: ((kid 0).text ++ joinFrom (fun i => (kid i).text) 1 m ++ [41])).length = q + 1 := by
              rw [g2']; simp only [List.length_cons, List.length_append, List.length_nil]; omega
            rw [e1]
            simp [brack]

/-- The text of data, a row each. -/
def toldText : (Nat → D) → Nat → Nat → List UInt8
  | _, _, 0 => []
  | kid, k, m + 1 => (kid k).text ++ 10 :: toldText kid (k + 1) m

theorem rest_over (s : ByteArray) (acc : List Tok) (p : Nat) (h : s.size ≤ p) : rest s acc p p = (acc, -1) := by
  unfold rest
  rw [show s.size - p = 0 from by omega]
  unfold scan
  rw [if_pos rfl]

theorem told_all (kid : Nat → D) (s : ByteArray) : ∀ (m k : Nat), (∀ i, k ≤ i → i < k + m → rightB (kid i) = true) → ∀ (acc : List Tok) (p : Nat), s.data.toList.drop p = toldText kid k m →
    ∃ ts, ts.map Tok.bare = flatFrom (fun i => (kid i).toks) k m ∧ rest s acc p p = (acc ++ ts, -1) := by
  intro m
  induction m with
  | zero =>
    intro k _ acc p hl
    have hp : s.size ≤ p := by
      have h := congrArg List.length hl
      simp only [List.length_drop, toldText, List.length_nil] at h
      rw [size_list]; omega
    exact ⟨[], rfl, by rw [rest_over s acc p hp, List.append_nil]⟩
  | succ m ih =>
    intro k h acc p hl
    obtain ⟨ts, h1, h2⟩ := told_one (kid k) (h k (Nat.le_refl _) (by omega)) s acc p 10 (toldText kid (k + 1) m) hl (by decide)
    have hl2 : s.data.toList.drop (p + (kid k).text.length + 1) = toldText kid (k + 1) m := by
      have := drop_more (s := s) (p := p) (a := (kid k).text ++ [10]) (l := toldText kid (k + 1) m) (by rw [hl]; simp [toldText])
      rw [List.length_append, List.length_singleton] at this
      rw [← this]; rfl
    obtain ⟨ts2, g1, g2⟩ := ih (k + 1) (fun i a b => h i (by omega) (by omega)) (acc ++ ts) _ hl2
    refine ⟨ts ++ ts2, by rw [List.map_append, h1, g1]; rfl, ?_⟩
    rw [h2, brack_blank (.inr rfl), List.append_nil, g2, List.append_assoc]

/-- What is told is read as it was. -/
theorem read_back (ds : List D) (hb : datsB ds.length (kidsOf ds) = true) (s : ByteArray) (hs : s.data.toList = toldText (kidsOf ds) 0 ds.length) (h4 : s.size ≤ 4000) :
    ∃ ds', readP s = .ok ds' [] ∧ ds'.length = ds.length ∧ ∀ i, i < ds.length → LikeD (kidsOf ds' i) (kidsOf ds i) := by
  have hk : ∀ i, i < ds.length → rightB (kidsOf ds i) = true := by
    have h := hb
    unfold datsB at h
    rw [Bool.and_eq_true, allTo_true] at h
    intro i hi
    have := h.1 i hi
    rw [Bool.and_eq_true] at this
    exact this.2
  obtain ⟨ts, h1, h2⟩ := told_all (kidsOf ds) s ds.length 0 (fun i _ hi => hk i (by omega)) [] 0 (by simpa using hs)
  have h3 : toks s = (ts, -1) := by rw [rest_start s h4, h2]; rfl
  obtain ⟨ds', g1, g2, g3, g4⟩ := read_told s.size ds hb ts h1
  refine ⟨ds', ?_, g2, g3⟩
  unfold readP
  rw [h3]
  simp only [if_true]
  rw [g1]
  simp only
  rw [if_pos g4]
end Go.Proofs.YtoljphjmekkneabGreatDoor
