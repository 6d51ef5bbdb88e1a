/- The document's own scanner: mathematics of its texts, signs and rounds. -/
import Derived.Test.YthhfgjcdopkmgaaGreatDoorRfE
set_option maxRecDepth 100000
namespace ScnT
open Go Go.RowKit
open Go.Proofs.YthhfgjcdopkmgaaGreatDoor (rfOdd rfSigns)
set_option linter.unusedVariables false
set_option linter.unusedSimpArgs false
/-- What a string's reader tells, so many bytes of it read. -/
def SayI (S : ByteArray) (a i : Nat) (acc : Bs) : Prop := stringT (restB S a) = match saysB (restB S i) with | some (t, n) => .ok (5, acc ++ t, i - a + n) | none => .error 101
theorem sayI_start (S : ByteArray) (a : Nat) : SayI S a (a + 1) [] := by
  unfold SayI stringT
  have : (restB S a).drop 1 = restB S (a + 1) := by unfold restB; rw [List.drop_drop]
  rw [this]
  cases h : saysB (restB S (a + 1)) with
  | none => rfl
  | some x =>
    obtain ⟨t, n⟩ := x
    show Except.ok (5, t, n + 1) = Except.ok (5, [] ++ t, a + 1 - a + n)
    have : a + 1 - a + n = n + 1 := by omega
    rw [this]
    rfl
theorem rest_end (S : ByteArray) (i : Nat) (h : S.size ≤ i) : restB S i = [] := by
  have := rest_len S i
  exact List.eq_nil_of_length_eq_zero (by omega)
theorem sayI_end {S : ByteArray} {a i : Nat} {acc : Bs} (h : SayI S a i acc) (hi : S.size ≤ i) : stringT (restB S a) = .error 101 := by
  unfold SayI at h
  rw [rest_end S i hi] at h
  exact h
theorem sayI_quote {S : ByteArray} {a i : Nat} {acc : Bs} (h : SayI S a i acc) (hi : i < S.size) (hc : S[i] = 34) : stringT (restB S a) = .ok (5, acc, i - a + 1) := by
  unfold SayI at h
  rw [rest_get S i hi, hc] at h
  have : saysB (34 :: restB S (i + 1)) = some ([], 1) := by rw [saysB.eq_def]; rfl
  rw [this] at h
  simpa using h
theorem sayI_bad {S : ByteArray} {a i : Nat} {acc : Bs} (h : SayI S a i acc) (hi : i < S.size) (hc : S[i].toNat < 32 ∨ 126 < S[i].toNat) : stringT (restB S a) = .error 101 := by
  unfold SayI at h
  rw [rest_get S i hi] at h
  have h34 : (S[i] == 34) = false := by rw [beq_eq_false_iff_ne]; intro e; rw [e] at hc; revert hc; decide
  have h92 : (S[i] == 92) = false := by rw [beq_eq_false_iff_ne]; intro e; rw [e] at hc; revert hc; decide
  have hp : isPl S[i] = false := by
    generalize S[i] = c at hc
    revert hc
    exact (all256 (P := fun c => (c.toNat < 32 ∨ 126 < c.toNat) → isPl c = false) (by decide)) c
  have : saysB (S[i] :: restB S (i + 1)) = none := by rw [saysB.eq_def]; simp [h34, h92, hp]
  rw [this] at h
  exact h
theorem sayI_plain {S : ByteArray} {a i : Nat} {acc : Bs} (h : SayI S a i acc) (hai : a < i) (hi : i < S.size) (h1 : 32 ≤ S[i].toNat) (h2 : S[i].toNat ≤ 126) (h3 : S[i] ≠ 34) (h4 : S[i] ≠ 92) : SayI S a (i + 1) (acc ++ [S[i]]) := by
  unfold SayI at h ⊢
  rw [rest_get S i hi] at h
  have h34 : (S[i] == 34) = false := beq_eq_false_iff_ne.2 h3
  have h92 : (S[i] == 92) = false := beq_eq_false_iff_ne.2 h4
  have hp : isPl S[i] = true := by
    generalize S[i] = c at *
    revert h1 h2 h3 h4
    exact (all256 (P := fun c => 32 ≤ c.toNat → c.toNat ≤ 126 → c ≠ 34 → c ≠ 92 → isPl c = true) (by decide)) c
  have : saysB (S[i] :: restB S (i + 1)) = match saysB (restB S (i + 1)) with | some (t, n) => some (S[i] :: t, n + 1) | none => none := by
    conv => lhs; rw [saysB.eq_def]
    simp only [h34, h92, hp, Bool.false_eq_true, if_false, if_true]
    try rfl
  rw [this] at h
  rw [h]
  cases saysB (restB S (i + 1)) with
  | none => rfl
  | some x =>
    obtain ⟨t, n⟩ := x
    have : i + 1 - a + n = i - a + (n + 1) := by omega
    simp [this]
theorem sayI_lone {S : ByteArray} {a i : Nat} {acc : Bs} (h : SayI S a i acc) (hi : i < S.size) (hc : S[i] = 92) (he : S.size ≤ i + 1) : stringT (restB S a) = .error 101 := by
  unfold SayI at h
  rw [rest_get S i hi, hc, rest_end S (i + 1) he] at h
  exact h
theorem says_pair (d : UInt8) (r : Bs) (hd : d ≠ 120) : saysB (92 :: d :: r) = match pairB d, saysB r with | some x, some (t, n) => some (x :: t, n + 2) | _, _ => none := by
  conv => lhs; rw [saysB.eq_def]
  simp [hd]
  try rfl
theorem sayI_pair {S : ByteArray} {a i : Nat} {acc : Bs} {x : UInt8} (h : SayI S a i acc) (hai : a < i) (hi : i + 1 < S.size) (hc : S[i] = 92) (hx : pairB S[i + 1] = some x) : SayI S a (i + 2) (acc ++ [x]) := by
  have hd : S[i + 1] ≠ 120 := by intro e; rw [e] at hx; simp [pairB] at hx
  unfold SayI at h ⊢
  rw [rest_get S i (by omega), hc, rest_get S (i + 1) hi, says_pair _ _ hd, hx] at h
  rw [h, show i + 1 + 1 = i + 2 from rfl]
  cases saysB (restB S (i + 2)) with
  | none => rfl
  | some y =>
    obtain ⟨t, n⟩ := y
    have : i + 2 - a + n = i - a + (n + 2) := by omega
    simp [this]
theorem sayI_nopair {S : ByteArray} {a i : Nat} {acc : Bs} (h : SayI S a i acc) (hi : i + 1 < S.size) (hc : S[i] = 92) (hd : S[i + 1] ≠ 120) (hx : pairB S[i + 1] = none) : stringT (restB S a) = .error 101 := by
  unfold SayI at h
  rw [rest_get S i (by omega), hc, rest_get S (i + 1) hi, says_pair _ _ hd, hx] at h
  exact h
theorem hex_some (c : UInt8) (h : hexN c ≤ 15) : hexB c = some (UInt8.ofNat (hexN c)) := by
  unfold hexN at h ⊢
  cases hb : hexB c with
  | none => rw [hb] at h; simp at h
  | some x => simp
theorem hex_none (c : UInt8) (h : 15 < hexN c) : hexB c = none := by
  revert c
  exact all256 (P := fun c => 15 < hexN c → hexB c = none) (by decide)
theorem hex_le (c : UInt8) : hexN c ≤ 16 := by
  revert c
  exact all256 (P := fun c => hexN c ≤ 16) (by decide)
theorem two_hex : ∀ x y : Fin 16, (UInt8.ofNat x.1 <<< 4 ||| UInt8.ofNat y.1) = UInt8.ofNat (16 * x.1 + y.1) := by decide
theorem sayI_hex {S : ByteArray} {a i : Nat} {acc : Bs} (h : SayI S a i acc) (hai : a < i) (hi : i + 3 < S.size) (hc : S[i] = 92) (hd : S[i + 1] = 120) (h1 : hexN S[i + 2] ≤ 15) (h2 : hexN S[i + 3] ≤ 15) : SayI S a (i + 4) (acc ++ [UInt8.ofNat (16 * hexN S[i + 2] + hexN S[i + 3])]) := by
  unfold SayI at h ⊢
  rw [rest_get S i (by omega), hc, rest_get S (i + 1) (by omega), hd, rest_get S (i + 1 + 1) (by omega), rest_get S (i + 1 + 1 + 1) (by omega)] at h
  have hs : saysB (92 :: 120 :: S[i + 1 + 1] :: S[i + 1 + 1 + 1] :: restB S (i + 1 + 1 + 1 + 1)) = match hexB S[i + 2], hexB S[i + 3], saysB (restB S (i + 4)) with | some x, some y, some (t, n) => some ((x <<< 4 ||| y) :: t, n + 4) | _, _, _ => none := by
    conv => lhs; rw [saysB.eq_def]
    simp
    try rfl
  rw [hs, hex_some _ h1, hex_some _ h2] at h
  have e := two_hex ⟨hexN S[i + 2], by omega⟩ ⟨hexN S[i + 3], by omega⟩
  simp only at e
  rw [h]
  cases saysB (restB S (i + 4)) with
  | none => rfl
  | some y =>
    obtain ⟨t, n⟩ := y
    have : i + 4 - a + n = i - a + (n + 4) := by omega
    simp [this, e]
theorem sayI_nohex {S : ByteArray} {a i : Nat} {acc : Bs} (h : SayI S a i acc) (hi : i + 1 < S.size) (hc : S[i] = 92) (hd : S[i + 1] = 120) (hn : ∀ hlt : i + 3 < S.size, 15 < hexN S[i + 2] ∨ 15 < hexN S[i + 3]) : stringT (restB S a) = .error 101 := by
  unfold SayI at h
  rw [rest_get S i (by omega), hc, rest_get S (i + 1) hi, hd] at h
  have hs : saysB (92 :: 120 :: restB S (i + 1 + 1)) = none := by
    conv => lhs; rw [saysB.eq_def]
    by_cases h2 : i + 2 < S.size
    · by_cases h3 : i + 3 < S.size
      · rw [rest_get S (i + 1 + 1) h2, rest_get S (i + 1 + 1 + 1) h3]
        rcases hn h3 with hh | hh
        · simp [hex_none _ hh]
        · have := hex_none _ hh
          simp only [show i + 1 + 1 + 1 = i + 3 from rfl, this]
          cases hexB S[i + 1 + 1] <;> rfl
      · rw [rest_get S (i + 1 + 1) h2, rest_end S (i + 1 + 1 + 1) (by omega)]
        rfl
    · rw [rest_end S (i + 1 + 1) (by omega)]
      rfl
  rw [hs] at h
  exact h
/-- Signs: the first that stands. -/
theorem isPrefix_len (t l : Bs) (n : Nat) (ht : t.length = n) : t.isPrefixOf l = (l.take n == t) := by
  subst ht
  by_cases h : t.length ≤ l.length
  · exact (take_prefix t l h).symm
  · have h1 : t.isPrefixOf l = false := by
      rw [Bool.eq_false_iff]
      intro hp
      have := (List.isPrefixOf_iff_prefix.1 hp).length_le
      omega
    have h2 : (l.take t.length == t) = false := by
      rw [beq_eq_false_iff_ne]
      intro e
      have : (l.take t.length).length = t.length := by rw [e]
      rw [List.length_take] at this
      omega
    rw [h1, h2]
theorem find_len (ts : List Bs) (n : Nat) (l : Bs) (h : ∀ t ∈ ts, t.length = n) : ts.find? (fun t => t.isPrefixOf l) = if ts.contains (l.take n) then some (l.take n) else none := by
  induction ts with
  | nil => rfl
  | cons t ts ih =>
    rw [List.find?_cons, isPrefix_len t l n (h t (by simp)), List.contains_cons]
    cases he : l.take n == t
    · rw [ih fun x hx => h x (by simp [hx])]
      simp
    · simp at he
      simp [he]
theorem contains_len (ts : List Bs) (n : Nat) (x : Bs) (h : ∀ t ∈ ts, t.length = n) (hx : x.length ≠ n) : ts.contains x = false := by
  rw [Bool.eq_false_iff]
  intro hc
  exact hx (h x (List.contains_iff_mem.1 hc))
def odd2 : List Bs := [[43, 43], [45, 45], [43, 61], [45, 61], [42, 61], [47, 61], [37, 61], [60, 60], [62, 62], [60, 45], [47, 42]]
def sign2 : List Bs := [[58, 61], [61, 61], [33, 61], [60, 61], [62, 61], [38, 38], [124, 124]]
def sign1 : List Bs := [[123], [125], [40], [41], [91], [93], [44], [59], [58], [46], [61], [60], [62], [43], [45], [42], [47], [37], [33]]
theorem rfOdd_first (l : Bs) : standsB rfOdd l = if l.take 3 == [46, 46, 46] then [46, 46, 46] else if odd2.contains (l.take 2) then l.take 2 else [] := by
  unfold standsB
  rw [show rfOdd = [46, 46, 46] :: odd2 from rfl, List.find?_cons, isPrefix_len [46, 46, 46] l 3 rfl, find_len odd2 2 l (by decide)]
  cases h : l.take 3 == [46, 46, 46]
  · cases h2 : odd2.contains (l.take 2)
    · rfl
    · rfl
  · rfl
theorem rfSigns_first (l : Bs) : standsB rfSigns l = if sign2.contains (l.take 2) then l.take 2 else if sign1.contains (l.take 1) then l.take 1 else [] := by
  unfold standsB
  rw [show rfSigns = sign2 ++ sign1 from rfl, List.find?_append, find_len sign2 2 l (by decide), find_len sign1 1 l (by decide)]
  cases h : sign2.contains (l.take 2)
  · cases h1 : sign1.contains (l.take 1) <;> rfl
  · rfl
theorem odd_has (x : Bs) : oddSigns.contains x = (odd2.contains x || x == [46, 46, 46]) := by
  rw [show oddSigns = odd2 ++ [[46, 46, 46]] from rfl]
  simp only [List.contains_eq_any_beq, List.any_append, List.any_cons, List.any_nil, Bool.or_false]
theorem signs_has (x : Bs) : signs.contains x = (sign2.contains x || sign1.contains x) := by
  rw [Bool.eq_iff_iff, Bool.or_eq_true, List.contains_iff_mem, List.contains_iff_mem, List.contains_iff_mem]
  unfold signs sign2 sign1
  simp only [List.mem_cons, List.not_mem_nil, or_false]
  constructor
  · rintro (h | h | h | h | h | h | h | h | h | h | h | h | h | h | h | h | h | h | h | h | h | h | h | h | h | h) <;> simp [h]
  · rintro ((h | h | h | h | h | h | h) | (h | h | h | h | h | h | h | h | h | h | h | h | h | h | h | h | h | h | h)) <;> simp [h]
/-- The document's way with signs is the rules' way. -/
theorem sign_way (l : Bs) (hl : l ≠ []) : signT l 3 = if standsB rfOdd l ≠ [] then .error 101 else if standsB rfSigns l = [] then .error 100 else .ok (6, standsB rfSigns l, (standsB rfSigns l).length) := by
  have h0 : 0 < l.length := List.length_pos_iff.2 hl
  have l1 : (l.take 1).length = 1 := by rw [List.length_take]; omega
  have o1 : oddSigns.contains (l.take 1) = false := by
    rw [odd_has, contains_len odd2 2 _ (by decide) (by omega)]
    simp
    intro e
    rw [e] at l1
    simp at l1
  have s1 : signs.contains (l.take 1) = sign1.contains (l.take 1) := by
    rw [signs_has, contains_len sign2 2 _ (by decide) (by omega)]
    rfl
  have n1 : l.take 1 ≠ [] := by intro e; rw [e] at l1; simp at l1
  have n2 : l.take 2 ≠ [] := by
    intro e
    have : (l.take 2).length = 0 := by rw [e]; rfl
    rw [List.length_take] at this
    omega
  have z0 : signT l 0 = .error 100 := rfl
  rw [rfOdd_first, rfSigns_first]
  show (if oddSigns.contains (l.take 3) then _ else if signs.contains (l.take 3) then _ else if oddSigns.contains (l.take 2) then _ else if signs.contains (l.take 2) then _ else if oddSigns.contains (l.take 1) then _ else if signs.contains (l.take 1) then _ else _) = _
  simp only [o1, s1, Bool.false_eq_true, if_false]
  by_cases h3 : 3 ≤ l.length
  · have l2 : (l.take 2).length = 2 := by rw [List.length_take]; omega
    have l3 : (l.take 3).length = 3 := by rw [List.length_take]; omega
    have o3 : oddSigns.contains (l.take 3) = (l.take 3 == [46, 46, 46]) := by rw [odd_has, contains_len odd2 2 _ (by decide) (by omega)]; rfl
    have s3 : signs.contains (l.take 3) = false := by rw [signs_has, contains_len sign2 2 _ (by decide) (by omega), contains_len sign1 1 _ (by decide) (by omega)]; rfl
    have o2 : oddSigns.contains (l.take 2) = odd2.contains (l.take 2) := by
      rw [odd_has]
      have : (l.take 2 == [46, 46, 46]) = false := by rw [beq_eq_false_iff_ne]; intro e; rw [e] at l2; simp at l2
      rw [this, Bool.or_false]
    have s2 : signs.contains (l.take 2) = sign2.contains (l.take 2) := by rw [signs_has, contains_len sign1 1 _ (by decide) (by omega), Bool.or_false]
    rw [o3, s3, o2, s2]
    cases e3 : l.take 3 == [46, 46, 46] <;> cases e2 : odd2.contains (l.take 2) <;> cases f2 : sign2.contains (l.take 2) <;> cases f1 : sign1.contains (l.take 1) <;> simp [n1, n2, z0]
  · have e32 : l.take 3 = l := List.take_of_length_le (by omega)
    have z3 : (l.take 3 == [46, 46, 46]) = false := by
      rw [beq_eq_false_iff_ne, e32]
      intro e
      rw [e] at h3
      simp at h3
    rw [z3]
    have e23 : l.take 3 = l.take 2 := by
      rw [e32]
      exact (List.take_of_length_le (by omega)).symm
    have z2 : (l.take 2 == [46, 46, 46]) = false := by rw [← e23]; exact z3
    rw [e23]
    have o2 : oddSigns.contains (l.take 2) = odd2.contains (l.take 2) := by rw [odd_has, z2, Bool.or_false]
    rw [o2]
    have s2 : signs.contains (l.take 2) = (sign2.contains (l.take 2) || sign1.contains (l.take 2)) := signs_has _
    rw [s2]
    by_cases h2 : l.length = 2
    · have : sign1.contains (l.take 2) = false := contains_len sign1 1 _ (by decide) (by rw [List.length_take]; omega)
      rw [this, Bool.or_false]
      cases e2 : odd2.contains (l.take 2) <;> cases f2 : sign2.contains (l.take 2) <;> cases f1 : sign1.contains (l.take 1) <;> simp [n1, n2, z0]
    · have e21 : l.take 2 = l.take 1 := by rw [List.take_of_length_le (by omega), List.take_of_length_le (by omega)]
      rw [e21]
      have c1 : odd2.contains (l.take 1) = false := contains_len odd2 2 _ (by decide) (by omega)
      have c2 : sign2.contains (l.take 1) = false := contains_len sign2 2 _ (by decide) (by omega)
      rw [c1, c2]
      cases f1 : sign1.contains (l.take 1) <;> simp [n1, z0]
/-- Rounds of the document's scanner. -/
theorem rm_skip_nil : skipB [] = 0 := rfl
theorem skip_blank (c : UInt8) (r : Bs) (h : isBl c = true) : skipB (c :: r) = skipB r + 1 := by
  unfold skipB
  simp only [List.takeWhile_cons, h, if_true, List.length_cons, List.drop_succ_cons]
  split <;> omega
theorem skip_none (c : UInt8) (r : Bs) (h : isBl c = false) (hc : [47, 47].isPrefixOf (c :: r) = false) : skipB (c :: r) = 0 := by
  unfold skipB
  simp only [List.takeWhile_cons, h, Bool.false_eq_true, if_false, List.length_nil, List.drop_zero, hc]
theorem rm_skip_comment (l : Bs) (h : [47, 47].isPrefixOf l = true) : skipB l = (l.takeWhile (· != 10)).length := by
  have hb : (l.takeWhile isBl).length = 0 := by
    cases l with
    | nil => rfl
    | cons c r =>
      have : c = 47 := by
        simp [List.isPrefixOf] at h
        exact h.1.symm
      subst this
      rfl
  unfold skipB
  simp only [hb, List.drop_zero, h, if_true, Nat.zero_add]
theorem drop_takeWhile (p : UInt8 → Bool) (l : Bs) : l.drop (l.takeWhile p).length = l.dropWhile p := by
  induction l with
  | nil => rfl
  | cons c l ih =>
    rw [List.takeWhile_cons, List.dropWhile_cons]
    split
    · simpa using ih
    · rfl
theorem skip_after (l : Bs) : skipB (l.dropWhile (· != 10)) = 0 := by
  cases h : l.dropWhile (· != 10) with
  | nil => rfl
  | cons c r =>
    have : (c != 10) = false := by
      have := List.head?_dropWhile_not (· != 10) l
      rw [h] at this
      simpa using this
    have hc : c = 10 := by simpa using this
    subst hc
    exact skip_none _ _ rfl (by simp [List.isPrefixOf])
theorem goT_blank (f : Nat) (c : UInt8) (r : Bs) (p : Nat) (ts : List Tok) (h : isBl c = true) : goT (f + 1) (c :: r) p ts = goT (f + 1) r (p + 1) ts := by
  conv => lhs; unfold goT
  conv => rhs; unfold goT
  rw [skip_blank c r h]
  simp only [List.drop_succ_cons, show p + (skipB r + 1) = p + 1 + skipB r by omega]
theorem goT_comment (f : Nat) (l : Bs) (p : Nat) (ts : List Tok) (h : [47, 47].isPrefixOf l = true) : goT (f + 1) l p ts = goT (f + 1) (l.drop (l.takeWhile (· != 10)).length) (p + (l.takeWhile (· != 10)).length) ts := by
  rw [drop_takeWhile]
  conv => lhs; unfold goT
  conv => rhs; unfold goT
  simp only [rm_skip_comment l h, drop_takeWhile, skip_after, List.drop_zero, Nat.add_zero]
theorem goT_line (f : Nat) (r : Bs) (p : Nat) (ts : List Tok) : goT (f + 1) (10 :: r) p ts = goT f r (p + 1) (endLine ts p) := by
  conv => lhs; unfold goT
  rw [skip_none 10 r rfl (by simp [List.isPrefixOf])]
  simp
theorem goT_end (f p : Nat) (ts : List Tok) : goT (f + 1) [] p ts = .ok (endLine ts p ++ [⟨7, [], p⟩]) := by
  unfold goT
  simp [rm_skip_nil]
theorem goT_one (f : Nat) (c : UInt8) (r : Bs) (p : Nat) (ts : List Tok) (h1 : isBl c = false) (h2 : [47, 47].isPrefixOf (c :: r) = false) (h3 : c ≠ 10) :
    goT (f + 1) (c :: r) p ts = match oneT (c :: r) with | .error e => .error (e, p) | .ok (kd, t, n) => goT f ((c :: r).drop n) (p + n) (ts ++ [⟨kd, t, p⟩]) := by
  conv => lhs; unfold goT
  rw [skip_none c r h1 h2]
  simp only [List.drop_zero, Nat.add_zero, beq_iff_eq, h3, if_false]
  try rfl
end ScnT
