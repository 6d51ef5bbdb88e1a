/- The document's own tokens: letters, how far they go, comments, rows of texts. -/
import Derived.Test.YtkcgccbmndgepaaGreatDoorLexF
import Derived.Deep.CutRange
import Derived.IntWalk
set_option maxRecDepth 100000
namespace LexT
open Go Go.RowKit
/-- How far a kind of byte goes from a place on. -/
def tw (p : UInt8 → Bool) (S : ByteArray) (a : Nat) : Nat := ((restB S a).takeWhile p).length
theorem tw_list (p : UInt8 → Bool) (l : Bs) : (l.takeWhile p).length ≤ l.length := by
  induction l with
  | nil => simp
  | cons c l ih => rw [List.takeWhile_cons]; split <;> simp; omega
theorem tw_le (p : UInt8 → Bool) (S : ByteArray) (a : Nat) : tw p S a ≤ S.size - a := by
  have := tw_list p (restB S a)
  rw [rest_len] at this
  exact this
theorem tw_in {p : UInt8 → Bool} {S : ByteArray} {a : Nat} (i : Nat) (h : i < tw p S a) : ∃ hlt : a + i < S.size, p S[a + i] = true := by
  induction i generalizing a with
  | zero =>
    have hl := tw_le p S a
    have hlt : a < S.size := by omega
    refine ⟨hlt, ?_⟩
    unfold tw at h
    rw [rest_get S a hlt, List.takeWhile_cons] at h
    cases hp : p S[a]
    · rw [hp] at h; simp at h
    · rfl
  | succ i ih =>
    have hl := tw_le p S a
    have hlt : a < S.size := by omega
    have h2 : i < tw p S (a + 1) := by
      unfold tw at h ⊢
      rw [rest_get S a hlt, List.takeWhile_cons] at h
      cases hp : p S[a]
      · rw [hp] at h; simp at h
      · rw [hp] at h; simpa using h
    obtain ⟨h3, h4⟩ := ih h2
    have e : a + 1 + i = a + (i + 1) := by omega
    refine ⟨by omega, ?_⟩
    simp only [e] at h4
    exact h4
theorem tw_out {p : UInt8 → Bool} {S : ByteArray} (n : Nat) : ∀ a, n = tw p S a → (hlt : a + n < S.size) → p S[a + n] = false := by
  induction n with
  | zero =>
    intro a hn hlt
    unfold tw at hn
    have hlt' : a < S.size := by omega
    rw [rest_get S a hlt', List.takeWhile_cons] at hn
    rcases Bool.eq_false_or_eq_true (p S[a]) with hp | hp
    · rw [hp] at hn; simp at hn
    · exact hp
  | succ n ih =>
    intro a hn hlt
    have hlt' : a < S.size := by omega
    unfold tw at hn
    rw [rest_get S a hlt', List.takeWhile_cons] at hn
    cases hp : p S[a]
    · rw [hp] at hn; simp at hn
    · rw [hp] at hn
      have e : a + 1 + n = a + (n + 1) := by omega
      have := ih (a + 1) (by unfold tw; simpa using hn) (by omega)
      simp only [e] at this
      exact this
theorem tw_at {p : UInt8 → Bool} {S : ByteArray} {a j : Nat} (h1 : a ≤ j) (h2 : j < a + tw p S a) : ∃ hlt : j < S.size, p S[j] = true := by
  obtain ⟨i, rfl⟩ : ∃ i, j = a + i := ⟨j - a, by omega⟩
  exact tw_in i (by omega)
theorem tw_end {p : UInt8 → Bool} {S : ByteArray} {a j : Nat} (h : j = a + tw p S a) (hlt : j < S.size) : p S[j] = false := by
  subst h
  exact tw_out _ a rfl hlt
theorem ld_eq (c : UInt8) : isLd c = (isLt c || isDg c) := rfl
theorem ld_eq2 (c : UInt8) : isLd c = (decide (97 ≤ c.toNat) && decide (c.toNat ≤ 122) || (decide (65 ≤ c.toNat) && decide (c.toNat ≤ 90)) || decide (c.toNat = 95) || (decide (48 ≤ c.toNat) && decide (c.toNat ≤ 57))) := by
  rw [ld_eq, lt_eq, dg_eq, Bool.or_assoc, Bool.or_assoc]
  simp only [Bool.or_assoc]
theorem comment_at {S : ByteArray} {p : Nat} (hlt : p < S.size) : [47, 47].isPrefixOf (restB S p) = (S[p] == 47 && (decide (p + 1 < S.size) && lookB (restB S p) 1 == 47)) := by
  rw [rest_get S p hlt]
  by_cases h : p + 1 < S.size
  · rw [rest_get S (p + 1) h]
    simp only [List.isPrefixOf, decide_eq_true h, Bool.true_and, lookB, List.getD_cons_succ, List.getD_cons_zero, Bool.and_true]
    rw [show ((47 : UInt8) == S[p]) = (S[p] == 47) from Bool.beq_comm, show ((47 : UInt8) == S[p + 1]) = (S[p + 1] == 47) from Bool.beq_comm]
  · rw [rest_nil S (p + 1) (by omega)]
    simp only [List.isPrefixOf, decide_eq_false h, Bool.false_and, Bool.and_false]
theorem two_at {S : ByteArray} {p : Nat} (hlt : p < S.size) : [37, 37].isPrefixOf (restB S p) = (S[p] == 37 && (decide (p + 1 < S.size) && lookB (restB S p) 1 == 37)) := by
  rw [rest_get S p hlt]
  by_cases h : p + 1 < S.size
  · rw [rest_get S (p + 1) h]
    simp only [List.isPrefixOf, decide_eq_true h, Bool.true_and, lookB, List.getD_cons_succ, List.getD_cons_zero, Bool.and_true]
    rw [show ((37 : UInt8) == S[p]) = (S[p] == 37) from Bool.beq_comm, show ((37 : UInt8) == S[p + 1]) = (S[p + 1] == 37) from Bool.beq_comm]
  · rw [rest_nil S (p + 1) (by omega)]
    simp only [List.isPrefixOf, decide_eq_false h, Bool.false_and, Bool.and_false]
theorem mkS_eq (a b : Bs) : ((mkS a).toList == (mkS b).toList) = (a == b) := by rw [mkS_toList, mkS_toList]
end LexT
namespace Go.Proofs.YtkcgccbmndgepaaGreatDoor
open Go.Instr Go.RowKit LexT
set_option linter.unusedVariables false
set_option linter.unusedSimpArgs false
theorem ret_i64 {a b : Int} (h : a = b) : Ending.returned (.int .i64 a) = .returned (.int .i64 b) := by rw [h]
theorem rfLetter_false (c : UInt8) (w : World) : Calls Tryz.prog 50 #[.int .u8 c.toNat, .bool false] w fun e w' => e = .returned (.bool (isLt c)) ∧ w = w' := by
  have hlt := c.toNat_lt
  have hd := Lib.hid (lt_eq c)
  generalize c.toNat = n at *
  by_cases h1 : 97 ≤ n <;> by_cases h2 : n ≤ 122 <;> by_cases h3 : 65 ≤ n <;> by_cases h4 : n ≤ 90 <;> by_cases h5 : n = 95
  all_goals try omega
  all_goals
    obtain ⟨b, e⟩ : ∃ b : Bool, Hid (isLt c = b) := ⟨_, rfl⟩
    have eb := e.out
    rw [hd.out] at eb
    simp [h1, h2, h3, h4, h5] at eb
    subst eb
    go_enter Tryz.func50, Tryz.ntmps50
    go_wp2_with fail
    go_ret
    exact ⟨ret_bool (by rw [e.out] <;> first | rfl | (simp; done) | (simp; omega)), rfl⟩
theorem rfLetter_true (c : UInt8) (w : World) : Calls Tryz.prog 50 #[.int .u8 c.toNat, .bool true] w fun e w' => e = .returned (.bool (isLd c)) ∧ w = w' := by
  have hlt := c.toNat_lt
  have hd := Lib.hid (ld_eq2 c)
  generalize c.toNat = n at *
  by_cases h1 : 97 ≤ n <;> by_cases h2 : n ≤ 122 <;> by_cases h3 : 65 ≤ n <;> by_cases h4 : n ≤ 90 <;> by_cases h5 : n = 95 <;> by_cases h6 : 48 ≤ n <;> by_cases h7 : n ≤ 57
  all_goals try omega
  all_goals
    obtain ⟨b, e⟩ : ∃ b : Bool, Hid (isLd c = b) := ⟨_, rfl⟩
    have eb := e.out
    rw [hd.out] at eb
    simp [h1, h2, h3, h4, h5, h6, h7] at eb
    subst eb
    go_enter Tryz.func50, Tryz.ntmps50
    go_wp2_with fail
    go_ret
    exact ⟨ret_bool (by rw [e.out] <;> first | rfl | (simp; done) | (simp; omega)), rfl⟩
set_option maxHeartbeats 2000000 in
theorem rfRun_any (S : ByteArray) (a : Nat) (w : World) (hS : S.size ≤ 100000) (ha : a ≤ S.size) : Calls Tryz.prog 51 #[.string S, .int .i64 a] w fun e w' => e = .returned (.int .i64 ((a + tw isLd S a : Nat) : Int)) ∧ w = w' := by
  have HL := Lib.hid (tw_le isLd S a)
  go_enter Tryz.func51, Tryz.ntmps51
  go_wp2_with fail
  go_loop [1] (fun v => ∃ j : Nat, a ≤ j ∧ j ≤ a + tw isLd S a ∧ v = .int .i64 j) (fun v => S.size - (intOf v).toNat)
  case atStart => exact ⟨a, by omega, by omega, rfl⟩
  case round =>
    obtain ⟨j, hj0, hj, rfl⟩ := hrel
    have hl := HL.out
    have j0 : (0 : Int) ≤ (j : Int) := by omega
    by_cases h : j < a + tw isLd S a
    · obtain ⟨hlt, hp⟩ := tw_at hj0 h
      have t1 : (j : Int) < (S.size : Int) := by omega
      have HD : Hid (∀ w, Calls Tryz.prog 50 #[.int .u8 (S[j].toNat : Int), .bool true] w fun e w' => e = .returned (.bool (isLd S[j])) ∧ w = w') := fun w => rfLetter_true _ w
      rw [hp] at HD
      clear hp
      go_wp2_with (go_at_call 50; refine (HD.out _).mono ?_; rintro e w' ⟨rfl, rfl⟩)
      go_round
      case rel => exact ⟨j + 1, by omega, by omega, by go_num⟩
      case measure => simp [intOf]; omega
    · have he : j = a + tw isLd S a := by omega
      by_cases hlt : j < S.size
      · have hp := tw_end he hlt
        have t1 : (j : Int) < (S.size : Int) := by omega
        have HE := Lib.hid he
        clear he h
        have HD : Hid (∀ w, Calls Tryz.prog 50 #[.int .u8 (S[j].toNat : Int), .bool true] w fun e w' => e = .returned (.bool (isLd S[j])) ∧ w = w') := fun w => rfLetter_true _ w
        rw [hp] at HD
        clear hp
        go_wp2_with (go_at_call 50; refine (HD.out _).mono ?_; rintro e w' ⟨rfl, rfl⟩)
        go_ret
        exact ⟨ret_i64 (by have := HE.out; omega), rfl⟩
      · have t1 : ¬ ((j : Int) < (S.size : Int)) := by omega
        have HE := Lib.hid he
        clear he h
        go_wp2_with fail
        go_ret
        exact ⟨ret_i64 (by have := HE.out; omega), rfl⟩
set_option maxHeartbeats 2000000 in
theorem rfOver_any (S : ByteArray) (a : Nat) (w : World) (hS : S.size ≤ 100000) (ha : a ≤ S.size) : Calls Tryz.prog 28 #[.string S, .int .i64 a] w fun e w' => e = .returned (.int .i64 ((a + tw notNL S a : Nat) : Int)) ∧ w = w' := by
  have HL := Lib.hid (tw_le notNL S a)
  go_enter Tryz.func28, Tryz.ntmps28
  go_wp2_with fail
  go_loop [1] (fun v => ∃ j : Nat, a ≤ j ∧ j ≤ a + tw notNL S a ∧ v = .int .i64 j) (fun v => S.size - (intOf v).toNat)
  case atStart => exact ⟨a, by omega, by omega, rfl⟩
  case round =>
    obtain ⟨j, hj0, hj, rfl⟩ := hrel
    have hl := HL.out
    have j0 : (0 : Int) ≤ (j : Int) := by omega
    by_cases h : j < a + tw notNL S a
    · obtain ⟨hlt, hp⟩ := tw_at hj0 h
      have t1 : (j : Int) < (S.size : Int) := by omega
      have hj10 : S[j] ≠ 10 := by simpa [notNL] using hp
      have y10 : ((S[j].toNat : Int) == 10) = false := by
        rw [beq_eq_false_iff_ne]
        intro e
        exact hj10 (UInt8.toNat_inj.1 (by show _ = 10; omega))
      clear hp hj10
      go_wp2_with fail
      go_round
      case rel => exact ⟨j + 1, by omega, by omega, by go_num⟩
      case measure => simp [intOf]; omega
    · have he : j = a + tw notNL S a := by omega
      by_cases hlt : j < S.size
      · have hp := tw_end he hlt
        have t1 : (j : Int) < (S.size : Int) := by omega
        have HE := Lib.hid he
        have hj10 : S[j] = 10 := by simpa [notNL] using hp
        have y10 : ((S[j].toNat : Int) == 10) = true := by rw [hj10]; rfl
        clear he h hp hj10
        go_wp2_with fail
        go_ret
        exact ⟨ret_i64 (by have := HE.out; omega), rfl⟩
      · have t1 : ¬ ((j : Int) < (S.size : Int)) := by omega
        have HE := Lib.hid he
        clear he h
        go_wp2_with fail
        go_ret
        exact ⟨ret_i64 (by have := HE.out; omega), rfl⟩
theorem rfComment_any (S : ByteArray) (a : Nat) (w : World) (hS : S.size ≤ 100000) (ha : a < S.size) : Calls Tryz.prog 27 #[.string S, .int .i64 a] w fun e w' => e = .returned (.bool ([47, 47].isPrefixOf (restB S a))) ∧ w = w' := by
  have a0 : (0 : Int) ≤ (a : Int) := by omega
  have a1 : (a : Int) < (S.size : Int) := by omega
  obtain ⟨r, hr⟩ : ∃ r, [47, 47].isPrefixOf (restB S a) = r := ⟨_, rfl⟩
  rw [hr]
  rw [comment_at ha] at hr
  by_cases hn : a + 1 < S.size
  · have q1 : (a : Int) + 1 < (S.size : Int) := by omega
    have q3 : (0 : Int) ≤ (a : Int) + 1 := by omega
    have q4 : ((a : Int) + 1).toNat = a + 1 := by omega
    rw [look_in S a 1 hn, decide_eq_true hn, Bool.true_and] at hr
    cases h1 : (S[a] == 47)
    · have e1 : ((S[a].toNat : Int) == 47) = false := u8_ne (k := 47) (by decide) h1
      rw [h1] at hr
      have HR : Hid (false = r) := hr
      clear hr h1
      go_enter Tryz.func27, Tryz.ntmps27
      go_wp2_with fail
      go_ret
      exact ⟨ret_bool HR.out, rfl⟩
    · have e1 : ((S[a].toNat : Int) == 47) = true := u8_eq (k := 47) (by decide) h1
      cases h2 : (S[a + 1] == 47)
      · have e2 : ((S[a + 1].toNat : Int) == 47) = false := u8_ne (k := 47) (by decide) h2
        rw [h1, h2] at hr
        have HR : Hid (false = r) := hr
        clear hr h1 h2
        go_enter Tryz.func27, Tryz.ntmps27
        go_wp2_with fail
        go_ret
        exact ⟨ret_bool HR.out, rfl⟩
      · have e2 : ((S[a + 1].toNat : Int) == 47) = true := u8_eq (k := 47) (by decide) h2
        rw [h1, h2] at hr
        have HR : Hid (true = r) := hr
        clear hr h1 h2
        go_enter Tryz.func27, Tryz.ntmps27
        go_wp2_with fail
        go_ret
        exact ⟨ret_bool HR.out, rfl⟩
  · have q1 : ¬ ((a : Int) + 1 < (S.size : Int)) := by omega
    rw [decide_eq_false hn, Bool.false_and, Bool.and_false] at hr
    have HR : Hid (false = r) := hr
    clear hr hn
    go_enter Tryz.func27, Tryz.ntmps27
    go_wp2_with fail
    go_ret
    exact ⟨ret_bool HR.out, rfl⟩
/-- A row of texts in memory. -/
def TextsAt (w : World) (g : Nat) (ts : List Bs) : Prop := ∀ (i : Nat) (t : Bs), ts[i]? = some t → w.cell? ⟨g, i, none⟩ = some (.string (mkS t))
theorem TextsAt.new (w : World) (ts : List Bs) : TextsAt (w.alloc (.cells (ts.map fun t => Value.string (mkS t)).toArray 9)) w.heap.size ts := by
  intro i t h
  rw [World.cell?_alloc_new]
  simp [h]
set_option maxHeartbeats 2000000 in
theorem rfAmong_any (x : Bs) (ts : List Bs) (g c : Nat) (w : World) (hl : ts.length < 1000000) (hc : TextsAt w g ts) : Calls Tryz.prog 52 #[.string (mkS x), .slice (some ⟨g, 0, none⟩) ts.length c] w fun e w' => e = .returned (.bool (ts.contains x)) ∧ w = w' := by
  have HC := Lib.hid hc
  clear hc
  obtain ⟨res, hr⟩ : ∃ res, ts.contains x = res := ⟨_, rfl⟩
  rw [hr]
  have HRR := Lib.hid hr
  clear hr
  go_enter Tryz.func52, Tryz.ntmps52
  go_wp2_with fail
  go_loop [5] (fun v => ∃ i : Nat, i ≤ ts.length ∧ v = .int .i64 i ∧ (∀ j, j < i → ts[j]? ≠ some x)) (fun v => ts.length - (intOf v).toNat)
  case atStart => exact ⟨0, by omega, rfl, fun j hj => by omega⟩
  case round =>
    obtain ⟨i, hi, rfl, hno⟩ := hrel
    have HNO := Lib.hid hno
    clear hno
    have i0 : (0 : Int) ≤ (i : Int) := by omega
    by_cases hlt : i < ts.length
    · have t1 : (i : Int) < (ts.length : Int) := by omega
      obtain ⟨t, ht⟩ : ∃ t, ts[i]? = some t := ⟨_, List.getElem?_eq_getElem hlt⟩
      have c0 := HC.out i t ht
      have HT := Lib.hid ht
      clear ht
      by_cases e : t = x
      · have e1 : ((mkS t).toList == (mkS x).toList) = true := by rw [mkS_eq, e]; simp
        have HE : Hid (true = res) := by
          show _ = _
          rw [← HRR.out, eq_comm, List.contains_iff_mem]
          exact List.mem_of_getElem? (by rw [HT.out, e])
        clear e
        go_wp2_with fail
        go_ret
        exact ⟨ret_bool HE.out, rfl⟩
      · have e1 : ((mkS t).toList == (mkS x).toList) = false := by rw [mkS_eq]; simpa using e
        have HE := Lib.hid e
        clear e
        go_wp2_with fail
        go_round
        case rel =>
          refine ⟨i + 1, by omega, by go_num, fun j hj => ?_⟩
          by_cases hji : j = i
          · subst hji
            rw [HT.out]
            intro h
            exact HE.out (by simpa using h)
          · exact HNO.out j (by omega)
        case measure => simp [intOf]; omega
    · have t1 : ¬ ((i : Int) < (ts.length : Int)) := by omega
      have HE : Hid (false = res) := by
        show _ = _
        rw [← HRR.out, eq_comm, Bool.eq_false_iff]
        intro h
        rw [List.contains_iff_mem] at h
        obtain ⟨j, hj, hx⟩ := List.mem_iff_getElem.1 h
        exact HNO.out j (by omega) (by rw [List.getElem?_eq_getElem hj, hx])
      go_wp2_with fail
      go_ret
      exact ⟨ret_bool HE.out, rfl⟩
theorem TextsAt.drew {w : World} {g : Nat} {ts : List Bs} (h : TextsAt w g ts) : TextsAt w.drew g ts := h
theorem TextsAt.at (w : World) (ts : List Bs) (g : Nat) (hg : w.heap.size = g) : TextsAt (w.alloc (.cells (ts.map fun t => Value.string (mkS t)).toArray 9)) g ts := by
  subst hg
  exact TextsAt.new w ts
theorem rfWords_any (w : World) : Calls Tryz.prog 5 #[] w fun e w' => e = .returned (.slice (some ⟨w.heap.size, 0, none⟩) 7 7) ∧ w.alloc (.cells (words.map fun t => Value.string (mkS t)).toArray 9) = w' := by
  go_enter Tryz.func5, Tryz.ntmps5
  go_wp2_with fail
  go_ret
  exact ⟨rfl, rfl⟩
end Go.Proofs.YtkcgccbmndgepaaGreatDoor
