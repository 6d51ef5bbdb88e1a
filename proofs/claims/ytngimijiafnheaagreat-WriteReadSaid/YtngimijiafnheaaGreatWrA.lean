/- write's small calls: must, behindSlash. -/
/- The shelf. -/
/- write's look: how much was said. -/
/- An action's bytes, gone through. -/
/- write's behindString, where nothing is panicked. -/
/- write's mustBeAction, where nothing is panicked. -/
/- strings.IndexAny of the three signs, at any bytes. -/
import Derived.Test.YtngimijiafnheaaGreatProg
import Derived.Lib.Hide
import Derived.Lib.IndexMore
import Derived.WalkKit
import Derived.Below
import Derived.Deep.Draws
import Derived.Test.YtngimijiafnheaaGreatLexShelf
import Derived.Test.YtngimijiafnheaaGreatLexA
import Derived.Deep.LoopGhost
import Derived.LoopTactic
import Derived.Handy
import Derived.Lib.IndexAny
import Derived.Laws.RangeString
import Derived.Laws.Runes
import Derived.Lib.Small
import Derived.Deep.QuietTactic
import Derived.BigQuiet
import Derived.WalkMore
set_option maxRecDepth 100000
set_option linter.unusedSimpArgs false
namespace LexT
set_option linter.unusedVariables false
def notNLw (c : UInt8) : Bool := c != 10
theorem index_nl : ∀ (r q : List UInt8) (c : UInt8), r.dropWhile notNLw = c :: q → Go.Lib.index r [10] = (r.takeWhile notNLw).length ∧ c = 10
  | [], q, c, h => by cases h
  | d :: r, q, c, h => by
    rw [List.dropWhile_cons] at h
    by_cases hd : notNLw d = true
    · rw [if_pos hd] at h
      obtain ⟨h1, h2⟩ := index_nl r q c h
      refine ⟨?_, h2⟩
      have hne : d ≠ 10 := by simpa [notNLw] using hd
      have hp : ([10] : List UInt8).isPrefixOf (d :: r) = false := by simp [List.isPrefixOf, Ne.symm hne]
      rw [List.takeWhile_cons, if_pos hd, List.length_cons, Go.Lib.index]
      simp [hp, h1]
    · rw [if_neg hd] at h
      injection h with h1 h2
      subst h1 h2
      have hne : d = 10 := by simpa [notNLw] using hd
      subst hne
      refine ⟨?_, rfl⟩
      rw [List.takeWhile_cons, if_neg hd, Go.Lib.index]
      simp [List.isPrefixOf]
theorem cut_nl {r q : List UInt8} {c : UInt8} (h : r.dropWhile notNLw = c :: q) : Go.Lib.cut r [10] = (r.takeWhile notNLw, q, true) := by
  obtain ⟨h1, rfl⟩ := index_nl r q c h
  have h2 := List.takeWhile_append_dropWhile (p := notNLw) (l := r)
  rw [h] at h2
  obtain ⟨t, ht⟩ : ∃ t, r.takeWhile notNLw = t := ⟨_, rfl⟩
  rw [ht] at h1 h2 ⊢
  unfold Go.Lib.cut
  rw [h1, if_pos (by omega), Int.toNat_natCast]
  have e1 : r.take t.length = t := by rw [← h2, List.take_left]
  have e2 : r.drop (t.length + [(10 : UInt8)].length) = q := by rw [← h2, ← List.drop_drop, List.drop_left]; rfl
  rw [e1, e2]
end LexT
namespace Go.Proofs.YtngimijiafnheaaGreat
open Go.Instr Go.RowKit LexT
set_option linter.unusedVariables false
theorem wmust_yes (w : World) : Calls Tryz.prog 44 #[.bool true] w fun e w' => e = .returned (.tuple #[]) ∧ w' = w := by
  go_enter Tryz.func44, Tryz.ntmps44
  go_wp2_with fail
  go_end0
  exact ⟨rfl, rfl⟩
theorem slash_no (s : ByteArray) (w : World) (h : ([47] : List UInt8).isPrefixOf s.data.toList = false) : Calls Tryz.prog 101 #[.string s] w fun e w' => e = .returned (.string s) ∧ w' = w := by
  have hp : Lib.hasPrefix s.data.toList [47] = false := h
  have HC := Lib.hid (Go.Proofs.Tryz.strings_CutPrefix s ⟨#[47]⟩ w)
  have e1 : (⟨#[47]⟩ : ByteArray).data.toList = [47] := rfl
  rw [e1, hp] at HC
  clear hp e1
  go_enter Tryz.func101, Tryz.ntmps101
  go_wp2_with fail
  refine HC.out.mono ?_
  rintro e w1 ⟨rfl, rfl⟩
  go_wp2_with fail
  go_ret
  exact ⟨rfl, rfl⟩
theorem slash_yes (s : ByteArray) (w : World) (m : Int) (hm : w.cell? ⟨0, 0, none⟩ = some (.int .i64 m)) (hs : s.size < 4294967281) (r q : List UInt8) (c : UInt8) (h : s.data.toList = 47 :: r) (hd : r.dropWhile notNLw = c :: q) :
    Calls Tryz.prog 101 #[.string s] w fun e w' => e = .returned (.string ⟨q.toArray⟩) ∧ ∃ n, w' = w.drewN n := by
  have hp : Lib.hasPrefix s.data.toList [47] = true := by rw [h]; rfl
  have ht : Lib.trimPrefix s.data.toList [47] = r := by unfold Lib.trimPrefix; rw [hp, h]; rfl
  have HC := Lib.hid (Go.Proofs.Tryz.strings_CutPrefix s ⟨#[47]⟩ w)
  have e1 : (⟨#[47]⟩ : ByteArray).data.toList = [47] := rfl
  rw [e1, hp, ht] at HC
  have hl := congrArg List.length h
  have hsz : s.data.toList.length = s.size := by simp
  rw [hsz] at hl
  have HT := Lib.hid (Go.Proofs.Tryz.strings_Cut ⟨r.toArray⟩ ⟨#[10]⟩ m w (by show r.toArray.size < _; simp; simp at hl; omega) hm)
  have e2 : (⟨#[10]⟩ : ByteArray).data.toList = [10] := rfl
  have e3 : (⟨r.toArray⟩ : ByteArray).data.toList = r := by simp
  rw [e2, e3, cut_nl hd] at HT
  have HM := Lib.hid (fun ww => wmust_yes ww)
  clear hp ht e1 e2 e3 hl hsz h hd
  go_enter Tryz.func101, Tryz.ntmps101
  go_wp2_with fail
  refine HC.out.mono ?_
  rintro e w1 ⟨rfl, rfl⟩
  go_wp2_with fail
  refine HT.out.mono ?_
  rintro e w2 ⟨rfl, n, rfl⟩
  go_wp2_with fail
  refine (HM.out _).mono ?_
  rintro e w3 ⟨rfl, rfl⟩
  go_wp2_with fail
  go_ret
  exact ⟨rfl, n, rfl⟩
end Go.Proofs.YtngimijiafnheaaGreat

set_option linter.unusedSimpArgs false
namespace Go.Proofs.YtngimijiafnheaaGreat
open Go.Instr Go.RowKit LexT
set_option linter.unusedVariables false
theorem says_yes (w : World) (b : Nat) (s k : Nat) (hc : w.cell? ⟨b, 1, none⟩ = some (.int .i64 (s : Int))) (hz : w.frozen? ⟨b, 1, none⟩ = false) (hk : s + k ≤ 2147483647) :
    Calls Tryz.prog 73 #[.pointer (some ⟨b, 0, none⟩), .int .i64 (k : Int)] w fun e w' => e = .returned (.tuple #[]) ∧ w' = w.setCell ⟨b, 1, none⟩ (.int .i64 ((s + k : Nat) : Int)) := by
  have HM := Lib.hid (fun ww => wmust_yes ww)
  have hw : wrap64 ((s : Int) + (k : Int)) = (s : Int) + (k : Int) := by unfold wrap64; omega
  have hd : decide ((s : Int) + (k : Int) ≤ 2147483647) = true := by simp; omega
  have he : ((s + k : Nat) : Int) = (s : Int) + (k : Int) := by omega
  have hle : (s : Int) + (k : Int) ≤ 2147483647 := by omega
  rw [he]
  clear he hk
  go_enter Tryz.func73, Tryz.ntmps73
  go_wp2_with fail
  refine (HM.out _).mono ?_
  rintro e w3 ⟨rfl, hw3⟩
  rw [hw3]
  clear hw3
  go_wp2_with fail
  go_end0
  exact ⟨rfl, rfl⟩
end Go.Proofs.YtngimijiafnheaaGreat
namespace LexT
set_option linter.unusedVariables false
/-- Goes through an action's bytes: so many are open. -/
def actL : Nat → Nat → Bs → Bool
  | 0, _, _ => false
  | f + 1, o, l =>
    match l with
    | [] => o == 0
    | c :: r =>
      if c == 123 then actL f (o + 1) r
      else if c == 125 then (if o = 0 then false else actL f (o - 1) r)
      else if c == 34 then (match strB r with | none => false | some n => actL f o (r.drop n))
      else if c == 47 then (if [47].isPrefixOf r then (match r.dropWhile notNL with | [] => false | _ :: q => actL f o q) else actL f o r)
      else actL f o r
end LexT
set_option linter.unusedSimpArgs false
namespace LexT
set_option linter.unusedVariables false
def plS (c : UInt8) : Bool := !(c == 34 || c == 92 || c == 10)
theorem ia_at : ∀ (l q : List UInt8) (c : UInt8), l.dropWhile plS = c :: q → Go.Lib.indexAny l [34, 92, 10] = (l.takeWhile plS).length
  | [], q, c, h => by cases h
  | d :: l, q, c, h => by
    rw [List.dropWhile_cons] at h
    by_cases hd : plS d = true
    · rw [if_pos hd] at h
      have h1 := ia_at l q c h
      have hc : ([34, 92, 10] : List UInt8).contains d = false := by
        unfold plS at hd
        simp at hd ⊢
        exact ⟨hd.1.1, hd.1.2, hd.2⟩
      rw [List.takeWhile_cons, if_pos hd, List.length_cons, Go.Lib.indexAny, hc, h1]
      simp
    · have hc : ([34, 92, 10] : List UInt8).contains d = true := by
        unfold plS at hd
        simp at hd ⊢
        by_cases h1 : d = 34
        · exact .inl h1
        · by_cases h2 : d = 92
          · exact .inr (.inl h2)
          · exact .inr (.inr (hd h1 h2))
      rw [List.takeWhile_cons, if_neg hd, Go.Lib.indexAny, hc]
      simp
theorem strB_skip : ∀ (l : List UInt8) (n : Nat), strB l = some n → ∃ c q, l.dropWhile plS = c :: q ∧ ((c = 34 ∧ n = (l.takeWhile plS).length + 1) ∨ (c = 92 ∧ ∃ d q1 m, q = d :: q1 ∧ strB q1 = some m ∧ n = m + ((l.takeWhile plS).length + 2)))
  | [], n, h => by simp [strB] at h
  | c :: r, n, h => by
    rw [strB.eq_def] at h
    simp only at h
    by_cases h1 : (c == 34) = true
    · have hc : c = 34 := by simpa using h1
      subst hc
      simp at h
      refine ⟨34, r, rfl, .inl ⟨rfl, ?_⟩⟩
      rw [← h]; rfl
    · simp only [h1, Bool.false_eq_true, if_false] at h
      by_cases h2 : (c == 10) = true
      · simp [h2] at h
      · simp only [h2, Bool.false_eq_true, if_false] at h
        by_cases h3 : (c == 92) = true
        · have hc : c = 92 := by simpa using h3
          subst hc
          simp only [h3, if_true] at h
          cases r with
          | nil => simp at h
          | cons d q1 =>
            simp only at h
            cases e : strB q1 with
            | none => simp [e] at h
            | some m =>
              simp [e] at h
              refine ⟨92, d :: q1, rfl, .inr ⟨rfl, d, q1, m, rfl, e, ?_⟩⟩
              have : ((92 : UInt8) :: d :: q1).takeWhile plS = [] := rfl
              rw [this, ← h]; rfl
        · simp only [h3, Bool.false_eq_true, if_false] at h
          cases e : strB r with
          | none => simp [e] at h
          | some m =>
            simp [e] at h
            have hp : plS c = true := by
              unfold plS
              simp at h1 h2 h3 ⊢
              exact ⟨⟨h1, h3⟩, h2⟩
            obtain ⟨c2, q, h4, h5⟩ := strB_skip r m e
            refine ⟨c2, q, by rw [List.dropWhile_cons, if_pos hp]; exact h4, ?_⟩
            rw [List.takeWhile_cons, if_pos hp, List.length_cons]
            rcases h5 with ⟨h5, h6⟩ | ⟨h5, d, q1, m2, h6, h7, h8⟩
            · exact .inl ⟨h5, by omega⟩
            · exact .inr ⟨h5, d, q1, m2, h6, h7, by omega⟩
end LexT
namespace Go.Proofs.YtngimijiafnheaaGreat
open Go.Instr Go.RowKit LexT
set_option linter.unusedVariables false
set_option maxHeartbeats 4000000 in
theorem string_yes (HIA : ∀ (s : ByteArray) (w : World), s.size < 4294967281 → Calls Tryz.prog 114 #[.string s, .string ⟨#[34, 92, 10]⟩] w fun e w' => e = .returned (.int .i64 (Lib.indexAny s.data.toList [34, 92, 10])) ∧ Below w.heap.size w w')
    (s0 : ByteArray) (w : World) (hs : s0.size < 4294967281) (n0 : Nat) (h : strB s0.data.toList = some n0) : Calls Tryz.prog 100 #[.string s0] w fun e w' => e = .returned (.string ⟨(s0.data.toList.drop n0).toArray⟩) ∧ Below w.heap.size w w' := by
  have HI := Lib.hid HIA
  have HM := Lib.hid (fun ww => wmust_yes ww)
  have H0 := Lib.hid (And.intro hs h)
  clear HIA hs h
  go_enter Tryz.func100, Tryz.ntmps100
  go_wp2_with fail
  go_loopg [0] s0.size (fun g v wr => ∃ (S : ByteArray) (n : Nat), v = .string S ∧ g = S.size ∧ S.size < 4294967281 ∧ strB S.data.toList = some n ∧ S.data.toList.drop n = s0.data.toList.drop n0 ∧ Below w.heap.size w wr)
  case atStart => exact ⟨s0, n0, rfl, rfl, H0.out.1, H0.out.2, rfl, Below.refl _ _⟩
  case round =>
    obtain ⟨S, n, rfl, hg, hsz, hst, hdr, hbl⟩ := hrel
    obtain ⟨c, q, hdw, hcase⟩ := strB_skip _ _ hst
    have hia := ia_at _ _ _ hdw
    have hl : S.data.toList.length = S.size := by simp
    have htd := List.takeWhile_append_dropWhile (p := plS) (l := S.data.toList)
    rw [hdw] at htd
    have HC := Lib.hid (HI.out S wr hsz)
    rw [hia] at HC
    obtain ⟨k, hk⟩ : ∃ k, (S.data.toList.takeWhile plS).length = k := ⟨_, rfl⟩
    rw [hk] at HC
    have hlen := congrArg List.length htd
    rw [List.length_append, List.length_cons, hl, hk] at hlen
    have i0 : (0 : Int) ≤ (k : Int) := by omega
    have i1 : (k : Int) < (S.size : Int) := by omega
    have g0 : decide ((k : Int) ≥ (0 : Int)) = true := by simp
    have HX := Lib.hid (And.intro hg (And.intro hst (And.intro hdr (And.intro hbl (And.intro hcase htd)))))
    have hget : S.data.toList[k]? = some c := by
      rw [← htd, List.getElem?_append_right (by rw [hk]; exact Nat.le_refl _), hk, Nat.sub_self]; rfl
    have hkS : k < S.size := by omega
    have hSk : S[k] = c := by
      obtain ⟨h9, he⟩ := List.getElem?_eq_some_iff.1 hget
      show S.data[k] = c
      simpa using he
    have hex : ∀ j, j ≤ S.size → (S.extract j S.size).data.toList = S.data.toList.drop j := by
      intro j hj
      rw [Lib.extract_data, List.take_of_length_le (by simp)]
    have HEX := Lib.hid hex
    have hw1 : wrap64 ((k : Int) + 1) = (k : Int) + 1 := by unfold wrap64; omega
    have hw2 : wrap64 ((k : Int) + 2) = (k : Int) + 2 := by unfold wrap64; omega
    clear hg hst hdr hbl htd hdw hia hget hex
    rcases hcase with ⟨rfl, hn⟩ | ⟨rfl, d, q1, m, rfl, hq1, hn⟩
    · have e10 : (((S[k].toNat : Nat) : Int) != 10) = true := by rw [hSk]; rfl
      have e34 : (((S[k].toNat : Nat) : Int) == 34) = true := by rw [hSk]; rfl
      have j1 : (k : Int) + 1 ≤ (S.size : Int) := by omega
      have j0 : (0 : Int) ≤ (k : Int) + 1 := by omega
      rw [hk] at hn
      have HN := Lib.hid hn
      clear hn hSk
      go_wp2_with fail
      refine HC.out.mono ?_
      rintro e w1 ⟨rfl, hb1⟩
      have HB1 := Lib.hid hb1
      clear hb1
      go_wp2_with fail
      refine (HM.out _).mono ?_
      rintro e w2 ⟨rfl, rfl⟩
      go_wp2_with fail
      have hfin : S.extract (k + 1) S.size = ⟨(s0.data.toList.drop n0).toArray⟩ := by
        apply ByteArray.ext
        apply Array.ext'
        rw [HEX.out (k + 1) (by omega), ← HX.out.2.2.1, HN.out]
      go_ret
      exact ⟨congrArg (fun v => Ending.returned (.string v)) hfin, HX.out.2.2.2.1.trans (HB1.out.mono HX.out.2.2.2.1.size)⟩
    · have e10 : (((S[k].toNat : Nat) : Int) != 10) = true := by rw [hSk]; rfl
      have e34 : (((S[k].toNat : Nat) : Int) == 34) = false := by rw [hSk]; rfl
      have j1 : (k : Int) + 1 < (S.size : Int) := by simp only [List.length_cons] at hlen; omega
      have j2 : (k : Int) + 2 ≤ (S.size : Int) := by simp only [List.length_cons] at hlen; omega
      have j0 : (0 : Int) ≤ (k : Int) + 2 := by omega
      have HQ : Hid (S.data.toList.drop (k + 2) = q1) := by
        show _ = _
        have h9 : S.data.toList.drop k = 92 :: d :: q1 := by
          rw [← HX.out.2.2.2.2.2, ← hk, List.drop_left]
        rw [← List.drop_drop, h9]
        rfl
      have HN := Lib.hid (And.intro hn hq1)
      clear hn hSk hq1
      go_wp2_with fail
      refine HC.out.mono ?_
      rintro e w1 ⟨rfl, hb1⟩
      have HB1 := Lib.hid hb1
      clear hb1
      go_wp2_with fail
      refine (HM.out _).mono ?_
      rintro e w2 ⟨rfl, rfl⟩
      go_wp2_with fail
      refine (HM.out _).mono ?_
      rintro e w3 ⟨rfl, hw3⟩
      rw [hw3]
      clear hw3
      go_wp2_with fail
      go_roundg ((S.extract (k + 2) S.size).size)
      case rel =>
        have h2 := HEX.out (k + 2) (by omega)
        have htl : S.data.toList.drop (k + 2) = q1 := HQ.out
        refine ⟨S.extract (k + 2) S.size, m, rfl, rfl, by simp; omega, by rw [h2, htl]; exact HN.out.2, ?_, HX.out.2.2.2.1.trans (HB1.out.mono HX.out.2.2.2.1.size)⟩
        rw [h2, List.drop_drop, ← HX.out.2.2.1, HN.out.1]
        congr 1
        omega
      case measure => rw [HX.out.1]; simp; omega
end Go.Proofs.YtngimijiafnheaaGreat
set_option linter.unusedSimpArgs false
namespace Go.Proofs.YtngimijiafnheaaGreat
open Go.Instr Go.RowKit LexT
set_option linter.unusedVariables false
set_option maxHeartbeats 8000000 in
theorem act_yes (HIA : ∀ (s : ByteArray) (w : World), s.size < 4294967281 → Calls Tryz.prog 114 #[.string s, .string ⟨#[34, 92, 10]⟩] w fun e w' => e = .returned (.int .i64 (Lib.indexAny s.data.toList [34, 92, 10])) ∧ Below w.heap.size w w')
    (a : ByteArray) (w : World) (m : Int) (hm : w.cell? ⟨0, 0, none⟩ = some (.int .i64 m)) (hs : a.size < 4294967281) (h : actL (a.size + 1) 0 a.data.toList = true) : Calls Tryz.prog 75 #[.string a] w fun e w' => e = .returned (.tuple #[]) ∧ Below w.heap.size w w' := by
  have HI := Lib.hid HIA
  have HM := Lib.hid (fun ww => wmust_yes ww)
  have H0 := Lib.hid (And.intro hs (And.intro h hm))
  clear HIA hs h hm
  go_enter Tryz.func75, Tryz.ntmps75
  go_wp2_with fail
  go_loopg [2, 3] a.size (fun g v2 v3 wr => ∃ (S : ByteArray) (o f : Nat), v3 = .string S ∧ v2 = .int .i64 (o : Int) ∧ g = S.size ∧ S.size < f ∧ o + S.size ≤ a.size ∧ actL f o S.data.toList = true ∧ Below w.heap.size w wr)
  case atStart => exact ⟨a, 0, a.size + 1, rfl, rfl, rfl, by omega, by omega, H0.out.2.1, Below.refl _ _⟩
  case round =>
    obtain ⟨S, o, f, rfl, rfl, hg, hf, ho, hact, hbl⟩ := hrel
    have hl : S.data.toList.length = S.size := by simp
    obtain ⟨f, rfl⟩ : ∃ j, f = j + 1 := ⟨f - 1, by omega⟩
    cases hS : S.data.toList with
    | nil =>
      rw [hS] at hact hl
      have ho0 : o = 0 := by simpa [actL] using hact
      subst ho0
      have hz : S.size = 0 := by simpa using hl.symm
      have HB := Lib.hid hbl
      have he : (!S.toList.isEmpty) = false := by rw [Lib.toList_data, hS]; rfl
      clear hbl hg
      go_wp2_with fail
      refine (HM.out _).mono ?_
      rintro e w3 ⟨rfl, hw3⟩
      rw [hw3]
      clear hw3
      go_wp2_with fail
      go_end0
      exact ⟨rfl, HB.out⟩
    | cons c r =>
      have hp : 0 < S.size := by rw [hS] at hl; simp at hl; omega
      have he : (!S.toList.isEmpty) = true := by rw [Lib.toList_data, hS]; rfl
      have hS0 : S[0] = c := by
        have hget : S.data.toList[0]? = some c := by rw [hS]; rfl
        obtain ⟨h9, he⟩ := List.getElem?_eq_some_iff.1 hget
        show S.data[0] = c
        simpa using he
      have hex : (S.extract 1 S.size).data.toList = r := by
        rw [Lib.extract_data, List.take_of_length_le (by simp), hS]; rfl
      have hrl : r.length + 1 = S.size := by rw [← hl, hS]; rfl
      have hsx : (S.extract 1 S.size).size = r.length := by simp; omega
      have HX := Lib.hid (And.intro hbl (And.intro (And.intro hex (And.intro hsx hrl)) hg))
      have hle : a.size < 4294967281 := H0.out.1
      rw [hS] at hact
      unfold actL at hact
      simp only at hact
      clear hbl hg hex
      by_cases h1 : (c == 123) = true
      · rw [if_pos h1] at hact
        have e1 : (((S[0].toNat : Nat) : Int) == 123) = true := by rw [hS0, show c = 123 by simpa using h1]; rfl
        have hw : wrap64 ((o : Int) + 1) = (o : Int) + 1 := by unfold wrap64; omega
        have hg0 : decide ((0 : Int) ≤ (o : Int) + 1) = true := by simp; omega
        have HA := Lib.hid hact
        clear hact hS0
        go_wp2_with fail
        refine (HM.out _).mono ?_
        rintro e w3 ⟨rfl, hw3⟩
        rw [hw3]
        clear hw3
        go_wp2_with fail
        go_roundg ((S.extract 1 S.size).size)
        case rel => exact ⟨S.extract 1 S.size, o + 1, f, rfl, by first | rfl | simp, rfl, by have := HX.out.2.1; have hq := this.2.1; have hq2 := this.2.2; rw [hq]; omega, by have := HX.out.2.1; have hq := this.2.1; have hq2 := this.2.2; rw [hq]; omega, by rw [HX.out.2.1.1]; exact HA.out, HX.out.1⟩
        case measure => rw [HX.out.2.2]; have := HX.out.2.1; have hq := this.2.1; have hq2 := this.2.2; rw [hq]; omega
      · rw [if_neg h1] at hact
        have e1 : (((S[0].toNat : Nat) : Int) == 123) = false := by
          have : c ≠ 123 := by simpa using h1
          have h9 : c.toNat ≠ 123 := fun h => this (UInt8.toNat_inj.1 h)
          rw [hS0]; simp; omega
        by_cases h2 : (c == 125) = true
        · rw [if_pos h2] at hact
          have e2 : (((S[0].toNat : Nat) : Int) == 125) = true := by rw [hS0, show c = 125 by simpa using h2]; rfl
          by_cases ho0 : o = 0
          · rw [if_pos ho0] at hact; cases hact
          · rw [if_neg ho0] at hact
            obtain ⟨p, rfl⟩ : ∃ p, o = p + 1 := ⟨o - 1, by omega⟩
            have hw : wrap64 (p : Int) = (p : Int) := by unfold wrap64; omega
            have hw2 : wrap64 (((p + 1 : Nat) : Int) - 1) = (p : Int) := by unfold wrap64; omega
            have hw3 : wrap64 ((p : Int) + 1 - 1) = (p : Int) := by rw [show (p : Int) + 1 - 1 = (p : Int) by omega]; exact hw
            have HA : Hid (actL f p r = true) := hact
            clear hact hS0
            go_wp2_with fail
            refine (HM.out _).mono ?_
            rintro e w3 ⟨rfl, hw3⟩
            rw [hw3]
            clear hw3
            go_wp2_with fail
            go_roundg ((S.extract 1 S.size).size)
            case rel => exact ⟨S.extract 1 S.size, p, f, rfl, by first | rfl | simp, rfl, by have := HX.out.2.1; have hq := this.2.1; have hq2 := this.2.2; rw [hq]; omega, by have := HX.out.2.1; have hq := this.2.1; have hq2 := this.2.2; rw [hq]; omega, by rw [HX.out.2.1.1]; exact HA.out, HX.out.1⟩
            case measure => rw [HX.out.2.2]; have := HX.out.2.1; have hq := this.2.1; have hq2 := this.2.2; rw [hq]; omega
        · rw [if_neg h2] at hact
          have e2 : (((S[0].toNat : Nat) : Int) == 125) = false := by
            have : c ≠ 125 := by simpa using h2
            have h9 : c.toNat ≠ 125 := fun h => this (UInt8.toNat_inj.1 h)
            rw [hS0]; simp; omega
          have hg0 : decide ((0 : Int) ≤ (o : Int)) = true := by simp
          by_cases h3 : (c == 34) = true
          · rw [if_pos h3] at hact
            have e3 : (((S[0].toNat : Nat) : Int) == 34) = true := by rw [hS0, show c = 34 by simpa using h3]; rfl
            cases hst : strB r with
            | none => rw [hst] at hact; cases hact
            | some n =>
              rw [hst] at hact
              have HA : Hid (actL f o (r.drop n) = true) := hact
              have HY := Lib.hid (string_yes HI.out (S.extract 1 S.size) wr (by rw [hsx]; omega) n (by rw [HX.out.2.1.1]; exact hst))
              rw [HX.out.2.1.1] at HY
              clear hact hS0 hst
              go_wp2_with fail
              refine HY.out.mono ?_
              rintro e w2 ⟨rfl, hb2⟩
              have HB2 : Hid (Below w.heap.size w w2) := HX.out.1.trans (hb2.mono HX.out.1.size)
              clear hb2
              go_wp2_with fail
              refine (HM.out _).mono ?_
              rintro e w3 ⟨rfl, hw3⟩
              rw [hw3]
              clear hw3
              go_wp2_with fail
              go_roundg ((⟨(r.drop n).toArray⟩ : ByteArray).size)
              case rel => exact ⟨⟨(r.drop n).toArray⟩, o, f, rfl, rfl, rfl, by have := HX.out.2.1; have hq2 := this.2.2; show (r.drop n).toArray.size < f; simp; omega, by have := HX.out.2.1; have hq2 := this.2.2; show o + (r.drop n).toArray.size ≤ a.size; simp; omega, by simpa using HA.out, HB2.out⟩
              case measure => rw [HX.out.2.2]; have := HX.out.2.1; have hq2 := this.2.2; show (r.drop n).toArray.size < S.size; simp; omega
          · rw [if_neg h3] at hact
            have e3 : (((S[0].toNat : Nat) : Int) == 34) = false := by
              have : c ≠ 34 := by simpa using h3
              have h9 : c.toNat ≠ 34 := fun h => this (UInt8.toNat_inj.1 h)
              rw [hS0]; simp; omega
            by_cases h4 : (c == 47) = true
            · rw [if_pos h4] at hact
              have e4 : (((S[0].toNat : Nat) : Int) == 47) = true := by rw [hS0, show c = 47 by simpa using h4]; rfl
              by_cases h5 : ([47] : List UInt8).isPrefixOf r = true
              · rw [if_pos h5] at hact
                obtain ⟨r2, hr2⟩ : ∃ r2, r = 47 :: r2 := by
                  cases r with
                  | nil => cases h5
                  | cons d r2 =>
                    simp [List.isPrefixOf] at h5
                    exact ⟨r2, by rw [h5]⟩
                cases hq : r.dropWhile notNL with
                | nil => rw [hq] at hact; cases hact
                | cons d q =>
                  rw [hq] at hact
                  have HA : Hid (actL f o q = true) := hact
                  have hq2 : r2.dropWhile notNLw = d :: q := by
                    have h9 := hq
                    rw [hr2] at h9
                    exact h9
                  have hql : q.length < r.length := by
                    have h9 := (List.dropWhile_sublist notNL (l := r)).length_le
                    rw [hq, List.length_cons] at h9
                    omega
                  have HQL := Lib.hid hql
                  have HY := Lib.hid (slash_yes (S.extract 1 S.size) wr m ((HX.out.1.cell (p := ⟨0, 0, none⟩) (World.block_lt_of_cell? _ _ H0.out.2.2)).trans H0.out.2.2) (by rw [hsx]; omega) r2 q d (by rw [HX.out.2.1.1, hr2]) hq2)
                  clear hact hS0 hq hq2 hql
                  go_wp2_with fail
                  refine HY.out.mono ?_
                  rintro e w2 ⟨rfl, n, rfl⟩
                  have HB2 : Hid (Below w.heap.size w (wr.drewN n)) := HX.out.1.trans ⟨rfl, rfl, rfl, Nat.le_refl _, fun _ _ => rfl⟩
                  go_wp2_with fail
                  refine (HM.out _).mono ?_
                  rintro e w3 ⟨rfl, hw3⟩
                  rw [hw3]
                  clear hw3
                  go_wp2_with fail
                  go_roundg ((⟨q.toArray⟩ : ByteArray).size)
                  case rel => exact ⟨⟨q.toArray⟩, o, f, rfl, rfl, rfl, by have := HX.out.2.1; have hz := this.2.2; have hy := HQL.out; show q.toArray.size < f; simp; omega, by have := HX.out.2.1; have hz := this.2.2; have hy := HQL.out; show o + q.toArray.size ≤ a.size; simp; omega, by simpa using HA.out, HB2.out⟩
                  case measure => rw [HX.out.2.2]; have := HX.out.2.1; have hz := this.2.2; have hy := HQL.out; show q.toArray.size < S.size; simp; omega
              · rw [if_neg h5] at hact
                have HA := Lib.hid hact
                have HY := Lib.hid (slash_no (S.extract 1 S.size) wr (by rw [HX.out.2.1.1]; exact Bool.eq_false_iff.2 h5))
                clear hact hS0
                go_wp2_with fail
                refine HY.out.mono ?_
                rintro e w2 ⟨rfl, hw2⟩
                rw [hw2]
                clear hw2
                go_wp2_with fail
                refine (HM.out _).mono ?_
                rintro e w3 ⟨rfl, hw3⟩
                rw [hw3]
                clear hw3
                go_wp2_with fail
                go_roundg ((S.extract 1 S.size).size)
                case rel => exact ⟨S.extract 1 S.size, o, f, rfl, by first | rfl | simp, rfl, by have := HX.out.2.1; have hq := this.2.1; have hq2 := this.2.2; rw [hq]; omega, by have := HX.out.2.1; have hq := this.2.1; have hq2 := this.2.2; rw [hq]; omega, by rw [HX.out.2.1.1]; exact HA.out, HX.out.1⟩
                case measure => rw [HX.out.2.2]; have := HX.out.2.1; have hq := this.2.1; have hq2 := this.2.2; rw [hq]; omega
            · rw [if_neg h4] at hact
              have e4 : (((S[0].toNat : Nat) : Int) == 47) = false := by
                have : c ≠ 47 := by simpa using h4
                have h9 : c.toNat ≠ 47 := fun h => this (UInt8.toNat_inj.1 h)
                rw [hS0]; simp; omega
              have HA := Lib.hid hact
              clear hact hS0
              go_wp2_with fail
              refine (HM.out _).mono ?_
              rintro e w3 ⟨rfl, hw3⟩
              rw [hw3]
              clear hw3
              go_wp2_with fail
              go_roundg ((S.extract 1 S.size).size)
              case rel => exact ⟨S.extract 1 S.size, o, f, rfl, by first | rfl | simp, rfl, by have := HX.out.2.1; have hq := this.2.1; have hq2 := this.2.2; rw [hq]; omega, by have := HX.out.2.1; have hq := this.2.1; have hq2 := this.2.2; rw [hq]; omega, by rw [HX.out.2.1.1]; exact HA.out, HX.out.1⟩
              case measure => rw [HX.out.2.2]; have := HX.out.2.1; have hq := this.2.1; have hq2 := this.2.2; rw [hq]; omega
end Go.Proofs.YtngimijiafnheaaGreat
set_option linter.unusedSimpArgs false
namespace LexT
open Go Go.RowKit
set_option linter.unusedVariables false
theorem decode_big (s : ByteArray) (pos : Nat) (h : pos < s.size) (hb : 128 ≤ (s[pos]'h).toNat) : ∃ r k, Utf8.decode s pos = (r, k) ∧ 128 ≤ r ∧ r ≤ 1114111 ∧ 1 ≤ k ∧ pos + k ≤ s.size ∧ ∀ j (hj : j < s.size), pos ≤ j → j < pos + k → 128 ≤ (s[j]'hj).toNat := by
  have eq : ∀ k (hk : pos + k < s.size), s.get! (pos + k) = s[pos + k]'hk := by
    intro k hk
    simp [ByteArray.get!, getElem!_pos, hk]
    rfl
  have e0 : s.get! (pos + 0) = s[pos]'h := eq 0 h
  have hn : ¬ ((s[pos]'h).toNat < 128) := by omega
  have hl0 := (s[pos]'h).toNat_lt
  have fin1 : ∀ j (hj : j < s.size), pos ≤ j → j < pos + 1 → 128 ≤ (s[j]'hj).toNat := by
    intro j hj h1 h2
    have : j = pos := by omega
    subst this; exact hb
  unfold Utf8.decode
  simp only [e0, hn, if_false]
  split
  · rename_i h1
    simp only [Bool.and_eq_true, decide_eq_true_eq, beq_iff_eq] at h1
    obtain ⟨h6, hs1, hc1⟩ := h1
    rw [eq 1 hs1] at hc1
    split
    · rename_i h2
      refine ⟨_, 2, rfl, by omega, by omega, by omega, by omega, fun j hj a1 a2 => ?_⟩
      have : j = pos ∨ j = pos + 1 := by omega
      rcases this with rfl | rfl
      · exact hb
      · omega
    · exact ⟨_, 1, rfl, by decide, by decide, by omega, by omega, fin1⟩
  · split
    · rename_i h1
      simp only [Bool.and_eq_true, decide_eq_true_eq, beq_iff_eq] at h1
      obtain ⟨⟨h6, hs1, hc1⟩, hs2, hc2⟩ := h1
      rw [eq 1 hs1] at hc1
      rw [eq 2 hs2] at hc2
      split
      · rename_i h2
        simp only [Bool.and_eq_true, decide_eq_true_eq] at h2
        refine ⟨_, 3, rfl, by omega, by omega, by omega, by omega, fun j hj a1 a2 => ?_⟩
        have : j = pos ∨ j = pos + 1 ∨ j = pos + 2 := by omega
        rcases this with rfl | rfl | rfl
        · exact hb
        · omega
        · omega
      · exact ⟨_, 1, rfl, by decide, by decide, by omega, by omega, fin1⟩
    · split
      · rename_i h1
        simp only [Bool.and_eq_true, decide_eq_true_eq, beq_iff_eq] at h1
        obtain ⟨⟨⟨h6, hs1, hc1⟩, hs2, hc2⟩, hs3, hc3⟩ := h1
        rw [eq 1 hs1] at hc1
        rw [eq 2 hs2] at hc2
        rw [eq 3 hs3] at hc3
        split
        · rename_i h2
          simp only [Bool.and_eq_true, decide_eq_true_eq] at h2
          have hv := h2.2
          refine ⟨_, 4, rfl, by omega, ?_, by omega, by omega, fun j hj a1 a2 => ?_⟩
          · unfold Utf8.valid at hv
            simp only [Bool.or_eq_true, Bool.and_eq_true, decide_eq_true_eq] at hv
            omega
          · have : j = pos ∨ j = pos + 1 ∨ j = pos + 2 ∨ j = pos + 3 := by omega
            rcases this with rfl | rfl | rfl | rfl
            · exact hb
            · omega
            · omega
            · omega
        · exact ⟨_, 1, rfl, by decide, by decide, by omega, by omega, fin1⟩
      · exact ⟨_, 1, rfl, by decide, by decide, by omega, by omega, fin1⟩
def putO (w : World) (g : Nat) (o : Obj) : World := { w with heap := w.heap.setIfInBounds g o }
theorem putO_size (w : World) (g : Nat) (o : Obj) : (putO w g o).heap.size = w.heap.size := by simp [putO]
theorem putO_other (w : World) (g : Nat) (o : Obj) (k : Nat) (h : k ≠ g) : (putO w g o).heap[k]? = w.heap[k]? := by
  show (w.heap.setIfInBounds g o)[k]? = _
  rw [Array.getElem?_setIfInBounds_ne (by omega)]
theorem putO_same (w : World) (g : Nat) (o : Obj) (h : g < w.heap.size) : (putO w g o).heap[g]? = some o := by
  show (w.heap.setIfInBounds g o)[g]? = _
  simp [h]
theorem putO_below (B : Nat) (w : World) (g : Nat) (o : Obj) (h : B ≤ g) : Below B w (putO w g o) :=
  ⟨rfl, rfl, rfl, by rw [putO_size]; exact Nat.le_refl _, fun k hk => putO_other w g o k (by omega)⟩
theorem run_next_at {P : Program} (w : World) (p : Nat) (s : ByteArray) (pos : Nat) (hp : w.heap[p]? = some (.stringIter s pos)) (ty : TypeId) (h : pos < s.size) (r k : Nat) (hd : Utf8.decode s pos = (r, k)) :
    (Instr.next (.pointer (some ⟨p, 0, none⟩)) true ty).run P w = .ok (.tuple #[.bool true, .int .i64 pos, .int .i32 (r : Int)]) (putO w p (.stringIter s (pos + k))) := by
  simp only [Instr.next, getObj, setObj, Sem.run_bind, Sem.run, hp, Result.andThen, h, if_true, hd]
  simp [goInt, Sem.run, putO]
theorem run_next_over {P : Program} (w : World) (p : Nat) (s : ByteArray) (pos : Nat) (hp : w.heap[p]? = some (.stringIter s pos)) (ty : TypeId) (h : ¬ pos < s.size) :
    (Instr.next (.pointer (some ⟨p, 0, none⟩)) true ty).run P w = .ok (.tuple #[.bool false]) w := by
  simp [Instr.next, getObj, Sem.run, hp, h]
theorem below_drn {b : Nat} {w w' : World} (h : Below b w w') (n : Nat) : Below b w (w'.drewN n) := h.trans ⟨rfl, rfl, rfl, Nat.le_refl _, fun _ _ => rfl⟩
theorem valid_of {r : Int} (h : Go.Lib.validRune r = true) : Utf8.valid r = true := by
  unfold Go.Lib.validRune at h
  simp at h
  unfold Utf8.valid
  simp
  omega
theorem no_sign : ∀ (n : Nat) (s : List UInt8) (j : Nat), (∀ i, j ≤ i → i < n → ∀ b, s[i]? = some b → 128 ≤ b.toNat) → Go.Lib.NoAny s [34, 92, 10] j → j ≤ n → Go.Lib.NoAny s [34, 92, 10] n := by
  intro n s j h hn hj i b hi hb
  by_cases hij : i < j
  · exact hn i b hij hb
  · have := h i (by omega) hi b hb
    simp
    refine ⟨?_, ?_, ?_⟩ <;> (rintro rfl; revert this; decide)
end LexT
namespace Go.Proofs.YtngimijiafnheaaGreat
open Go.Instr Go.RowKit LexT
set_option linter.unusedVariables false
set_option maxHeartbeats 4000000 in
/-- None of the three signs is such a rune. -/
theorem IndexRune_high (r : Nat) (w : World) (h0 : 128 ≤ r) (h1 : r ≤ 1114111) : Calls Tryz.prog 121 #[.string ⟨#[34, 92, 10]⟩, .int .i32 (r : Int)] w fun e w' => e = .returned (.int .i64 (-1)) ∧ Below w.heap.size w w' := by
  obtain ⟨C, hC⟩ : ∃ C : ByteArray, (⟨#[34, 92, 10]⟩ : ByteArray) = C := ⟨_, rfl⟩
  rw [hC]
  have hsz : C.size = 3 := by rw [← hC]; rfl
  have g0 : ¬ ((r : Int) < 128) := by omega
  have g1 : (0 : Int) ≤ (r : Int) := by omega
  by_cases he : r = 65533
  · subst he
    have HA : Hid (∀ j (hj : j < C.size), (C[j]'hj).toNat < 128) := by
      intro j hj
      have hj2 : j < 3 := by omega
      subst hC
      match j, hj2 with
      | 0, _ => exact (by decide : (34 : UInt8).toNat < 128)
      | 1, _ => exact (by decide : (92 : UInt8).toNat < 128)
      | 2, _ => exact (by decide : (10 : UInt8).toNat < 128)
    clear hC
    go_enter Tryz.func121, Tryz.ntmps121
    go_wp2_with fail
    go_loopg [5, 6] 3 (fun g _ _ wx => ∃ i : Nat, i + g = 3 ∧ wx = w.iter C i)
    case atStart => exact ⟨0, by omega, rfl⟩
    case round =>
      obtain ⟨i, hig, rfl⟩ := hrel
      cases gk with
      | zero =>
        obtain rfl : i = 3 := by omega
        have hnx' := fun ty => run_next_end (P := Tryz.prog) w C 3 ty (by omega)
        go_wp2_with fail
        go_ret
        exact ⟨rfl, (Below.refl _ _).alloc (Nat.le_refl _) _⟩
      | succ g =>
        have hi : i < C.size := by omega
        have hx := HA.out i hi
        have hnx := fun ty => run_next_ascii (P := Tryz.prog) w C i ty hi hx
        obtain ⟨x, hxx⟩ : ∃ x : UInt8, C[i]'hi = x := ⟨_, rfl⟩
        rw [hxx] at hnx hx
        have e1 : ((x.toNat : Int) == 65533) = false := by simp; omega
        go_wp2_with fail
        go_roundg g
        case measure => omega
        case rel => exact ⟨i + 1, by omega, rfl⟩
  · have e1 : ((r : Int) == 65533) = false := by simp; omega
    have HV := Lib.hid (Go.Proofs.Tryz.utf8_ValidRune (r : Int) w)
    cases hv : Lib.validRune (r : Int)
    · rw [hv] at HV
      go_enter Tryz.func121, Tryz.ntmps121
      go_wp2_with fail
      refine HV.out.mono ?_
      rintro e w1 ⟨rfl, rfl⟩
      go_wp2_with fail
      go_ret
      exact ⟨rfl, Below.refl _ _⟩
    · rw [hv] at HV
      obtain ⟨f1, f2, f3⟩ := encode_facts (r : Int) (valid_of hv) (by omega)
      obtain ⟨R, hR⟩ : ∃ R, Utf8.encode (r : Int) = R := ⟨_, rfl⟩
      rw [hR] at f1 f2 f3
      have HI := Lib.hid (fun s c ww => Go.Proofs.Tryz.strings_IndexByte s c ww)
      have hRs : R.size = 2 ∨ R.size = 3 ∨ R.size = 4 := by omega
      have HEN : Hid (Utf8.encode (r : Int) = R) := hR
      have HCC : Hid ((⟨#[34, 92, 10]⟩ : ByteArray) = C) := hC
      clear hv f1 f2
      rcases hRs with hr | hr | hr
      · have j1 : (1 : Nat) < R.size := by omega
        have k1 : (1 : Nat) < C.size := by omega
        have hb := f3 (by omega)
        simp only [hr] at hb
        have hb1 : 128 ≤ (R[1]'j1).toNat := hb
        have hc1 : (C[1]'k1).toNat = 92 := by subst hC; rfl
        have z1 : (((C[1]'k1).toNat : Int) != ((R[1]'j1).toNat : Int)) = true := by rw [hc1]; simp; omega
        have HIX : Hid (∀ ww, Calls Tryz.prog 128 #[.string (C.extract 2 3), .int .u8 ((R[1]'j1).toNat : Int)] ww fun e w' => e = .returned (.int .i64 (-1)) ∧ w' = ww) := by
          intro ww
          refine (HI.out _ _ ww).mono ?_
          rintro e w' ⟨rfl, rfl⟩
          refine ⟨?_, rfl⟩
          have e2 : (((R[1]'j1).toNat : Int)).toNat.toUInt8 = R[1]'j1 := by simp
          rw [e2]
          have e3 : (C.extract 2 3).data.toList = [10] := by subst hC; rfl
          rw [e3]
          have e4 : ((10 : UInt8) == (R[1]'j1)) = false := by
            rw [beq_eq_false_iff_ne]
            intro h
            rw [← h] at hb1
            revert hb1; decide
          simp [Lib.indexByte, e4]
        have hw2 : IntKind.i64.wrap 2 = 2 := by decide
        clear f3 hb hb1 hc1
        go_enter Tryz.func121, Tryz.ntmps121
        go_wp2_with fail
        refine HV.out.mono ?_
        rintro e w1 ⟨rfl, rfl⟩
        go_wp2_with fail
        go_step3
        go_wp2_with fail
        go_loopg [9] 1 (fun g v wx => v = .int .i64 1 ∧ wx = w1)
        case atStart => exact ⟨rfl, rfl⟩
        case round =>
          obtain ⟨rfl, rfl⟩ := hrel
          go_wp2_with fail
          go_step3
          go_wp2_with fail
          go_quiet (fail)
          obtain ⟨w2, hw2'⟩ : ∃ V, V = wr.drewN nq := ⟨_, rfl⟩
          rw [← hw2']
          have HB2 : Hid (Below wr.heap.size wr w2) := by rw [hw2']; exact below_drn (Below.refl _ _) _
          clear hw2'
          go_wp2_with fail
          go_quiet ((go_at_call 128; exact Calls.quiet_of_same (HIX.out _)))
          go_wp2_with fail
          simp only [Exit.noGoto_ret, Exit.inBlock, Exit.then]
          go_ret
          exact ⟨rfl, below_drn HB2.out _⟩
      · have j1 : (2 : Nat) < R.size := by omega
        have k1 : (2 : Nat) < C.size := by omega
        have hb := f3 (by omega)
        simp only [hr] at hb
        have hb1 : 128 ≤ (R[2]'j1).toNat := hb
        have hc1 : (C[2]'k1).toNat = 10 := by subst hC; rfl
        have z1 : (((C[2]'k1).toNat : Int) != ((R[2]'j1).toNat : Int)) = true := by rw [hc1]; simp; omega
        have HIX : Hid (∀ ww, Calls Tryz.prog 128 #[.string ByteArray.empty, .int .u8 ((R[2]'j1).toNat : Int)] ww fun e w' => e = .returned (.int .i64 (-1)) ∧ w' = ww) := by
          intro ww
          refine (HI.out _ _ ww).mono ?_
          rintro e w' ⟨rfl, rfl⟩
          refine ⟨?_, rfl⟩
          have e2 : (((R[2]'j1).toNat : Int)).toNat.toUInt8 = R[2]'j1 := by simp
          rw [e2]
          have e3 : ByteArray.empty.data.toList = [] := rfl
          rw [e3]
          simp [Lib.indexByte]
        have hw2 : IntKind.i64.wrap 3 = 3 := by decide
        clear f3 hb hb1 hc1
        go_enter Tryz.func121, Tryz.ntmps121
        go_wp2_with fail
        refine HV.out.mono ?_
        rintro e w1 ⟨rfl, rfl⟩
        go_wp2_with fail
        go_step3
        go_wp2_with fail
        go_loopg [9] 1 (fun g v wx => v = .int .i64 2 ∧ wx = w1)
        case atStart => exact ⟨rfl, rfl⟩
        case round =>
          obtain ⟨rfl, rfl⟩ := hrel
          go_wp2_with fail
          go_step3
          go_wp2_with fail
          go_quiet (fail)
          obtain ⟨w2, hw2'⟩ : ∃ V, V = wr.drewN nq := ⟨_, rfl⟩
          rw [← hw2']
          have HB2 : Hid (Below wr.heap.size wr w2) := by rw [hw2']; exact below_drn (Below.refl _ _) _
          clear hw2'
          go_wp2_with fail
          go_quiet ((go_at_call 128; exact Calls.quiet_of_same (HIX.out _)))
          go_wp2_with fail
          simp only [Exit.noGoto_ret, Exit.inBlock, Exit.then]
          go_ret
          exact ⟨rfl, below_drn HB2.out _⟩
      · clear f3
        go_enter Tryz.func121, Tryz.ntmps121
        go_wp2_with fail
        refine HV.out.mono ?_
        rintro e w1 ⟨rfl, rfl⟩
        go_wp2_with fail
        go_step3
        go_wp2_with fail
        go_loopg [9] 1 (fun g v wx => v = .int .i64 3 ∧ wx = w1)
        case atStart => exact ⟨rfl, rfl⟩
        case round =>
          obtain ⟨rfl, rfl⟩ := hrel
          go_wp2_with fail
          simp only [Exit.noGoto_ret, Exit.inBlock, Exit.then]
          go_ret
          exact ⟨rfl, Below.refl _ _⟩
set_option maxHeartbeats 4000000 in
theorem IndexAny_few (s : ByteArray) (w : World) (h8 : s.size ≤ 8) : Calls Tryz.prog 114 #[.string s, .string ⟨#[34, 92, 10]⟩] w fun e w' => e = .returned (.int .i64 (Lib.indexAny s.data.toList [34, 92, 10])) ∧ Below w.heap.size w w' := by
  obtain ⟨C, hC⟩ : ∃ C : ByteArray, (⟨#[34, 92, 10]⟩ : ByteArray) = C := ⟨_, rfl⟩
  rw [hC]
  have hCs : C.size = 3 := by rw [← hC]; rfl
  have hCl : C.data.toList = [34, 92, 10] := by rw [← hC]
  have hemp : C.toList.isEmpty = false := by rw [Lib.toList_data, hCl]; rfl
  have hn1 : ((C.size : Int) == 1) = false := by rw [hCs]; rfl
  have h8z : decide ((8 : Int) < (s.size : Int)) = false := decide_eq_false (by omega)
  have HU := Lib.hid (Go.Proofs.Tryz.strings_shouldUseASCIISet (s.size : Int) w)
  rw [h8z] at HU
  have HR := Lib.hid (fun r ww h0 h1 => IndexRune_high r ww h0 h1)
  rw [hC] at HR
  have HCL := Lib.hid hCl
  have HRA : Hid (∀ (r : Int) ww, 0 ≤ r → r < 128 → Calls Tryz.prog 121 #[.string C, .int .i32 r] ww fun e w' => e = .returned (.int .i64 (Lib.indexByte [34, 92, 10] r.toNat.toUInt8)) ∧ w' = ww) := by
    intro r ww h0 h1
    have := Go.Proofs.Tryz.strings_IndexRune_ascii C r ww h0 h1
    rw [hCl] at this
    exact this
  clear hC hCl h8z
  go_enter Tryz.func114, Tryz.ntmps114
  go_wp2_with fail
  refine HU.out.mono ?_
  rintro e w1 ⟨rfl, rfl⟩
  go_wp2_with fail
  go_loopg [9, 10] s.size (fun g _ _ wx => ∃ i : Nat, i + g = s.size ∧ wx.heap[w1.heap.size]? = some (.stringIter s i) ∧ Below w1.heap.size w1 wx ∧ Lib.NoAny s.data.toList [34, 92, 10] i)
  case atStart => exact ⟨0, by omega, World.iter_heap _ _ _, (Below.refl _ _).alloc (Nat.le_refl _) _, Lib.NoAny.zero _ _⟩
  case round =>
    obtain ⟨i, hig, hit, hbl, hno⟩ := hrel
    have HN := Lib.hid hno
    have HB := Lib.hid hbl
    have hlt : w1.heap.size < wr.heap.size := (Array.getElem?_eq_some_iff.1 hit).1
    clear hno hbl
    cases hgk : gk with
    | zero =>
      obtain rfl : i = s.size := by omega
      have hnx := fun ty => run_next_over (P := Tryz.prog) wr w1.heap.size s s.size hit ty (by omega)
      go_wp2_with fail
      go_ret
      exact ⟨by rw [Lib.indexAny_none (by rw [← Lib.size_eq]; exact HN.out)]; rfl, HB.out⟩
    | succ g =>
      have hi : i < s.size := by omega
      by_cases hb : 128 ≤ (s[i]'hi).toNat
      · obtain ⟨r, k, hd, hr0, hr1, hk1, hk2, hall⟩ := decode_big s i hi hb
        have hnx := fun ty => run_next_at (P := Tryz.prog) wr w1.heap.size s i hit ty hi r k hd
        have HRR := Lib.hid (HR.out r (putO wr w1.heap.size (.stringIter s (i + k))) hr0 hr1)
        have HALL : Hid (Lib.NoAny s.data.toList [34, 92, 10] (i + k)) := by
          refine no_sign (i + k) _ i (fun j a1 a2 b hb2 => ?_) HN.out (by omega)
          obtain ⟨h9, he⟩ := List.getElem?_eq_some_iff.1 hb2
          have hj : j < s.size := by omega
          have := hall j hj a1 a2
          have e : s[j]'hj = b := by
            show s.data[j] = b
            simpa using he
          rw [e] at this
          exact this
        have hp2 := putO_same wr w1.heap.size (.stringIter s (i + k)) hlt
        have hs2 := putO_size wr w1.heap.size (.stringIter s (i + k))
        have HB2 : Hid (Below w1.heap.size w1 (putO wr w1.heap.size (.stringIter s (i + k)))) := HB.out.trans (putO_below _ _ _ _ (Nat.le_refl _))
        clear hall hb hd
        go_wp2_with fail
        refine HRR.out.mono ?_
        rintro e w3 ⟨rfl, hb3⟩
        have hp3 := (hb3.block w1.heap.size (by rw [hs2]; exact hlt)).trans hp2
        have HB3 : Hid (Below w1.heap.size w1 w3) := HB2.out.trans (hb3.mono (by rw [hs2]; omega))
        clear hb3
        go_wp2_with fail
        go_roundg (s.size - (i + k))
        case measure => omega
        case rel => exact ⟨i + k, by omega, hp3, HB3.out, HALL.out⟩
      · have hb' : (s[i]'hi).toNat < 128 := by omega
        have hd := decode_ascii s i hi hb'
        have hnx := fun ty => run_next_at (P := Tryz.prog) wr w1.heap.size s i hit ty hi _ _ hd
        obtain ⟨x, hx⟩ : ∃ x : UInt8, s[i]'hi = x := ⟨_, rfl⟩
        have hxl : s.data.toList[i]? = some x := by rw [← hx]; exact Lib.data_getElem? s i hi
        rw [hx] at hnx hb'
        have HX := Lib.hid hxl
        have hback : ((x.toNat : Int)).toNat.toUInt8 = x := by simp
        have HRR := Lib.hid (HRA.out (x.toNat : Int) (putO wr w1.heap.size (.stringIter s (i + 1))) (by omega) (by omega))
        rw [hback] at HRR
        have hp2 := putO_same wr w1.heap.size (.stringIter s (i + 1)) hlt
        have HB2 : Hid (Below w1.heap.size w1 (putO wr w1.heap.size (.stringIter s (i + 1)))) := HB.out.trans (putO_below _ _ _ _ (Nat.le_refl _))
        have hcon := Lib.contains_iff_indexByte [34, 92, 10] x
        obtain ⟨ib, hib⟩ : ∃ ib, Lib.indexByte [34, 92, 10] x = ib := ⟨_, rfl⟩
        rw [hib] at HRR hcon
        clear hd hb hxl hback hib
        cases hin : ([34, 92, 10] : List UInt8).contains x
        · rw [hin] at hcon
          have hlt2 : ¬ ((0 : Int) ≤ ib) := of_decide_eq_false hcon.symm
          have HIN := Lib.hid hin
          clear hcon hin
          go_wp2_with fail
          refine HRR.out.mono ?_
          rintro e w3 ⟨rfl, hw3⟩
          rw [hw3]
          clear hw3
          go_wp2_with fail
          go_roundg g
          case measure => omega
          case rel => exact ⟨i + 1, by omega, hp2, HB2.out, HN.out.succ HX.out HIN.out⟩
        · rw [hin] at hcon
          have hge : (0 : Int) ≤ ib := of_decide_eq_true hcon.symm
          have HIN := Lib.hid hin
          clear hcon hin
          go_wp2_with fail
          refine HRR.out.mono ?_
          rintro e w3 ⟨rfl, hw3⟩
          rw [hw3]
          clear hw3
          go_wp2_with fail
          go_ret
          exact ⟨by rw [Lib.indexAny_hit HN.out HX.out HIN.out]; rfl, HB2.out⟩
/-- strings.IndexAny of the three signs. -/
theorem hia (s : ByteArray) (w : World) (hs : s.size < 4294967281) : Calls Tryz.prog 114 #[.string s, .string ⟨#[34, 92, 10]⟩] w fun e w' => e = .returned (.int .i64 (Lib.indexAny s.data.toList [34, 92, 10])) ∧ Below w.heap.size w w' := by
  by_cases h8 : s.size ≤ 8
  · exact IndexAny_few s w h8
  · refine (Go.Proofs.Tryz.strings_IndexAny_long (fun w => by kernel_rfl) s ⟨#[34, 92, 10]⟩ w (by decide) (by omega) hs (by decide) (fun j b hj => ?_)).mono fun e w' ⟨h1, h2⟩ => ⟨h1, ?_⟩
    · match j, hj with
      | 0, hj => simp at hj; subst hj; decide
      | 1, hj => simp at hj; subst hj; decide
      | 2, hj => simp at hj; subst hj; decide
    · rw [h2]
      exact ((Below.refl _ _).alloc (Nat.le_refl _) _).alloc (by simp) _
end Go.Proofs.YtngimijiafnheaaGreat
