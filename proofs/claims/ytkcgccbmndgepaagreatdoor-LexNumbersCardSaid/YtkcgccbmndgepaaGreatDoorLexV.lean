/- The document's own tokens: strings of actions, actions. -/
import Derived.Test.YtkcgccbmndgepaaGreatDoorLexU
import Derived.Test.YtkcgccbmndgepaaGreatDoorLexL
set_option maxRecDepth 100000
namespace LexT
open Go Go.RowKit
set_option linter.unusedVariables false
/-- A string has gone by up to j. -/
structure Qd (S : ByteArray) (a j : Nat) : Prop where
  le : a ≤ j
  hi : j ≤ S.size + 1
  eq : strB (restB S a) = (strB (restB S j)).map (· + (j - a))
section
variable {S : ByteArray} {a j : Nat}
theorem Qd.fin (h : Qd S a j) (hlt : j < S.size) (hc : S[j] = 34) : strB (restB S a) = some (j + 1 - a) := by
  have hle := h.le
  rw [h.eq, rest_get S j hlt, str_end (by rw [hc]; rfl)]
  simp; omega
theorem Qd.ended (h : Qd S a j) (hge : S.size ≤ j) : strB (restB S a) = none := by
  rw [h.eq, rest_nil S j hge]; rfl
theorem Qd.line (h : Qd S a j) (hlt : j < S.size) (hc : S[j] = 10) : strB (restB S a) = none := by
  rw [h.eq, rest_get S j hlt, str_line (by rw [hc]; rfl) (by rw [hc]; rfl)]; rfl
theorem Qd.one (h : Qd S a j) (hlt : j < S.size) (h1 : S[j] ≠ 34) (h2 : S[j] ≠ 10) (h3 : S[j] ≠ 92) : Qd S a (j + 1) := by
  have hle := h.le
  refine ⟨by omega, by omega, ?_⟩
  rw [h.eq, rest_get S j hlt, str_one (by simpa using h1) (by simpa using h2) (by simpa using h3), Option.map_map]
  congr 1
  funext x
  simp only [Function.comp]
  omega
theorem Qd.two (h : Qd S a j) (hlt : j < S.size) (h3 : S[j] = 92) : Qd S a (j + 2) := by
  have hle := h.le
  refine ⟨by omega, by omega, ?_⟩
  by_cases hn : j + 1 < S.size
  · rw [h.eq, rest_get S j hlt, rest_get S (j + 1) hn, str_two (by rw [h3]; rfl) (by rw [h3]; rfl) (by rw [h3]; rfl), Option.map_map]
    congr 1
    funext x
    simp only [Function.comp]
    omega
  · rw [h.eq, rest_get S j hlt, rest_nil S (j + 1) (by omega), rest_nil S (j + 2) (by omega), str_cut (by rw [h3]; rfl) (by rw [h3]; rfl) (by rw [h3]; rfl)]
    rfl
end
end LexT
namespace Go.Proofs.YtkcgccbmndgepaaGreatDoor
open Go.Instr Go.RowKit LexT
set_option linter.unusedVariables false
set_option linter.unusedSimpArgs false
/-- What the reader of a string tells. -/
def qT (R : Option Nat) (a : Nat) (e : Ending) : Prop :=
  match R with
  | some n => e = .returned (.tuple #[.int .i64 ((a + n : Nat) : Int), .bool true])
  | none => ∃ z : Int, e = .returned (.tuple #[.int .i64 z, .bool false])
theorem byte_ne {c : UInt8} {k : Nat} (hk : k < 256) (h : c ≠ UInt8.ofNat k) : ((c.toNat : Int) == (k : Int)) = false := u8_ne hk (by simpa using h)
theorem byte_eq {c : UInt8} {k : Nat} (hk : k < 256) (h : c = UInt8.ofNat k) : ((c.toNat : Int) == (k : Int)) = true := u8_eq hk (by simpa using h)
set_option maxHeartbeats 4000000 in
theorem rfQuoted_any (S : ByteArray) (a : Nat) (w : World) (hS : S.size ≤ 100000) (ha : a < S.size) : Calls Tryz.prog 105 #[.string S, .int .i64 a] w fun e w' => qT (strB (restB S (a + 1))) (a + 1) e ∧ w = w' := by
  have HQ0 : Hid (Qd S (a + 1) (a + 1)) := ⟨Nat.le_refl _, by omega, by cases strB (restB S (a + 1)) <;> simp⟩
  go_enter Tryz.func105, Tryz.ntmps105
  go_wp2_with fail
  go_loop [1] (fun v => ∃ j : Nat, v = .int .i64 j ∧ Qd S (a + 1) j) (fun v => S.size + 1 - (intOf v).toNat)
  case atStart => exact ⟨a + 1, by go_num, HQ0.out⟩
  case round =>
    obtain ⟨j, rfl, hq⟩ := hrel
    have hle := hq.le
    have hhi := hq.hi
    have j0 : (0 : Int) ≤ (j : Int) := by omega
    have HQ := Lib.hid hq
    clear hq HQ0
    by_cases hlt : j < S.size
    · have t1 : (j : Int) < (S.size : Int) := by omega
      by_cases h34 : S[j] = 34
      · have f34 : ((S[j].toNat : Int) == 34) = true := byte_eq (k := 34) (by decide) h34
        have HE := Lib.hid (HQ.out.fin hlt h34)
        clear h34
        go_wp2_with fail
        refine bodyPost_ret (v := .tuple #[.int .i64 ((j : Int) + 1), .bool true]) (by simp [results, Tryz.results105, go_sem]) rfl ⟨?_, rfl⟩
        have e9 : a + 1 + (j + 1 - (a + 1)) = j + 1 := by omega
        rw [HE.out]
        unfold qT
        simp only [e9]
        rfl
      · have f34 : ((S[j].toNat : Int) == 34) = false := byte_ne (k := 34) (by decide) h34
        by_cases h10 : S[j] = 10
        · have f10 : ((S[j].toNat : Int) == 10) = true := byte_eq (k := 10) (by decide) h10
          have HE := Lib.hid (HQ.out.line hlt h10)
          clear h34 h10
          go_wp2_with fail
          refine bodyPost_ret (v := .tuple #[.int .i64 0, .bool false]) (by simp [results, Tryz.results105, go_sem]) rfl ⟨?_, rfl⟩
          rw [HE.out]
          exact ⟨_, rfl⟩
        · have f10 : ((S[j].toNat : Int) == 10) = false := byte_ne (k := 10) (by decide) h10
          by_cases h92 : S[j] = 92
          · have f92 : ((S[j].toNat : Int) == 92) = true := byte_eq (k := 92) (by decide) h92
            have HN := Lib.hid (HQ.out.two hlt h92)
            clear h34 h10 h92
            go_wp2_with fail
            go_round
            case rel => exact ⟨j + 2, by go_num, HN.out⟩
            case measure => simp [intOf]; omega
          · have f92 : ((S[j].toNat : Int) == 92) = false := byte_ne (k := 92) (by decide) h92
            have HN := Lib.hid (HQ.out.one hlt h34 h10 h92)
            clear h34 h10 h92
            go_wp2_with fail
            go_round
            case rel => exact ⟨j + 1, by go_num, HN.out⟩
            case measure => simp [intOf]; omega
    · have t1 : ¬ ((j : Int) < (S.size : Int)) := by omega
      have HE := Lib.hid (HQ.out.ended (by omega))
      go_wp2_with fail
      refine bodyPost_ret (v := .tuple #[.int .i64 ((j : Int) + 1), .bool false]) (by simp [results, Tryz.results105, go_sem, t1] <;> omega) rfl ⟨?_, rfl⟩
      rw [HE.out]
      exact ⟨_, rfl⟩
/-- What the reader of an action tells: the place of what closes it. -/
def aT (R : Option Nat) (a : Nat) (e : Ending) : Prop :=
  match R with
  | some n => e = .returned (.tuple #[.int .i64 ((a + n : Nat) - 1 : Int), .bool true])
  | none => ∃ z : Int, e = .returned (.tuple #[.int .i64 z, .bool false])
end Go.Proofs.YtkcgccbmndgepaaGreatDoor
namespace LexT
set_option linter.unusedVariables false
/-- An action has gone by up to j; so many are open. -/
structure Ad (S : ByteArray) (a j o : Nat) : Prop where
  le : a ≤ j
  hi : j ≤ S.size
  few : o ≤ j
  first : (∃ (h : j < S.size), o = 0 ∧ S[j] = 123) ∨ 1 ≤ o
  eq : actB 0 (restB S a) = (actB o (restB S j)).map (· + (j - a))
section
variable {S : ByteArray} {a j o : Nat}
theorem Ad.step (h : Ad S a j o) (hlt : j < S.size) {n : Nat} (hp : pieceB S[j] (restB S (j + 1)) = some n) (ho : openB S[j] o ≠ 0) : Ad S a (j + n) (openB S[j] o) := by
  have hle := h.le
  have hn := pieceB_len hp
  rw [rest_len] at hn
  have hop : openB S[j] o ≤ o + 1 := by unfold openB; split <;> (try split) <;> omega
  have hfew := h.few
  refine ⟨by omega, by omega, by omega, .inr (by omega), ?_⟩
  rw [h.eq, rest_get S j hlt, actB_cons, hp]
  simp only
  rw [if_neg ho, Option.map_map]
  have hd : (S[j] :: restB S (j + 1)).drop n = restB S (j + n) := by rw [← rest_get S j hlt, drop_rest]
  rw [hd]
  congr 1
  funext x
  simp only [Function.comp]
  omega
theorem Ad.close (h : Ad S a j 1) (hlt : j < S.size) (hc : S[j] = 125) : actB 0 (restB S a) = some (j + 1 - a) := by
  have hle := h.le
  have e : actB 1 (restB S j) = some 1 := by
    rw [rest_get S j hlt, hc]; rfl
  rw [h.eq, e]
  simp; omega
theorem Ad.ended (h : Ad S a j o) (hge : S.size ≤ j) : actB 0 (restB S a) = none := by
  rw [h.eq, rest_nil S j hge]; rfl
theorem Ad.cut (h : Ad S a j o) (hlt : j < S.size) (hp : pieceB S[j] (restB S (j + 1)) = none) : actB 0 (restB S a) = none := by
  rw [h.eq, rest_get S j hlt, actB_cons, hp]; rfl
theorem piece_comment (hlt : j < S.size) (h : [47, 47].isPrefixOf (restB S j) = true) : pieceB S[j] (restB S (j + 1)) = some (tw notNL S j) ∧ ∀ o, openB S[j] o = o := by
  rw [rest_get S j hlt] at h
  have h1 : S[j] = 47 := by
    simp only [List.isPrefixOf, Bool.and_eq_true, beq_iff_eq] at h
    exact h.1.symm
  have h2 : [47].isPrefixOf (restB S (j + 1)) = true := by
    cases e : restB S (j + 1) with
    | nil => rw [e] at h; simp [List.isPrefixOf] at h
    | cons d q =>
      rw [e] at h
      simp only [List.isPrefixOf, Bool.and_eq_true, beq_iff_eq] at h ⊢
      exact ⟨h.2.1, trivial⟩
  refine ⟨?_, fun o => by rw [h1]; rfl⟩
  unfold tw
  rw [rest_get S j hlt, h1, List.takeWhile_cons, if_pos (by decide)]
  unfold pieceB
  rw [if_neg (by decide), if_pos (by decide), if_pos h2, List.length_cons, Nat.add_comm]
theorem piece_plain (hlt : j < S.size) (h : [47, 47].isPrefixOf (restB S j) = false) (h34 : S[j] ≠ 34) : pieceB S[j] (restB S (j + 1)) = some 1 := by
  unfold pieceB
  rw [if_neg (by simpa using h34)]
  by_cases h47 : S[j] = 47
  · rw [if_pos (by simpa using h47), if_neg]
    rw [rest_get S j hlt, h47] at h
    intro h2
    cases e : restB S (j + 1) with
    | nil => rw [e] at h2; cases h2
    | cons d q =>
      rw [e] at h h2
      simp only [List.isPrefixOf, Bool.and_true, beq_self_eq_true, Bool.true_and] at h h2
      rw [h] at h2
      cases h2
  · rw [if_neg (by simpa using h47)]
end
end LexT
namespace Go.Proofs.YtkcgccbmndgepaaGreatDoor
open Go.Instr Go.RowKit LexT
set_option linter.unusedVariables false
set_option linter.unusedSimpArgs false
set_option maxHeartbeats 8000000 in
theorem rfAction_any (S : ByteArray) (a : Nat) (w : World) (hS : S.size ≤ 100000) (ha : a < S.size) (hc : S[a] = 123) : Calls Tryz.prog 53 #[.string S, .int .i64 a] w fun e w' => aT (actB 0 (restB S a)) a e ∧ w = w' := by
  have HA0 : Hid (Ad S a a 0) := ⟨Nat.le_refl _, by omega, by omega, .inl ⟨ha, rfl, hc⟩, by cases actB 0 (restB S a) <;> simp⟩
  clear hc
  go_enter Tryz.func53, Tryz.ntmps53
  go_wp2_with fail
  go_loop [1, 6] (fun v u => ∃ (j o : Nat), v = .int .i64 j ∧ u = .int .i64 o ∧ Ad S a j o) (fun v u => S.size + 1 - (intOf v).toNat)
  case atStart => exact ⟨a, 0, rfl, rfl, HA0.out⟩
  case round =>
    obtain ⟨j, o, rfl, rfl, hq⟩ := hrel
    have hle := hq.le
    have hhi := hq.hi
    have hfew := hq.few
    have j0 : (0 : Int) ≤ (j : Int) := by omega
    have HQ := Lib.hid hq
    clear hq HA0
    by_cases hlt : j < S.size
    · have t1 : (j : Int) < (S.size : Int) := by omega
      have HCM := Lib.hid (fun w => rfComment_any S j w hS hlt)
      cases hcm : [47, 47].isPrefixOf (restB S j)
      · rw [hcm] at HCM
        by_cases h34 : S[j] = 34
        · have f34 : ((S[j].toNat : Int) == 34) = true := byte_eq (k := 34) (by decide) h34
          have HQT := Lib.hid (fun w => rfQuoted_any S j w hS hlt)
          have hpc : pieceB S[j] (restB S (j + 1)) = (strB (restB S (j + 1))).map (· + 1) := by rw [h34]; rfl
          have hop : ∀ o, openB S[j] o = o := fun o => by rw [h34]; rfl
          have ho1 : 1 ≤ o := by
            rcases HQ.out.first with ⟨_, _, h⟩ | h
            · rw [h34] at h; cases h
            · exact h
          cases hs : strB (restB S (j + 1)) with
          | none =>
            rw [hs] at HQT hpc
            have HE := Lib.hid (HQ.out.cut hlt (by rw [hpc]; rfl))
            clear hcm h34 hpc hop hs
            go_wp2_with (first | (go_at_call 27; refine (HCM.out _).mono ?_; rintro e w' ⟨rfl, rfl⟩))
            refine (HQT.out _).mono ?_
            rintro e w' ⟨⟨z, rfl⟩, rfl⟩
            go_wp2_with fail
            refine bodyPost_ret (v := .tuple #[.int .i64 0, .bool false]) (by simp [results, Tryz.results53, go_sem]) rfl ⟨?_, rfl⟩
            rw [HE.out]
            exact ⟨_, rfl⟩
          | some n =>
            rw [hs] at HQT hpc
            have HN := Lib.hid (HQ.out.step (n := n + 1) hlt (by rw [hpc]; rfl) (by rw [hop]; omega))
            rw [hop] at HN
            clear hcm h34 hpc hop hs
            go_wp2_with (first | (go_at_call 27; refine (HCM.out _).mono ?_; rintro e w' ⟨rfl, rfl⟩))
            refine (HQT.out _).mono ?_
            intro e w' hh
            have he : e = .returned (.tuple #[.int .i64 ((j + 1 + n : Nat) : Int), .bool true]) := hh.1
            obtain rfl := hh.2
            subst he
            clear hh
            go_wp2_with fail
            go_round
            case rel => exact ⟨j + 1 + n, o, rfl, rfl, by have := HN.out; rwa [show j + (n + 1) = j + 1 + n from by omega] at this⟩
            case measure => have := HN.out.hi; simp [intOf]; omega
        · have f34 : ((S[j].toNat : Int) == 34) = false := byte_ne (k := 34) (by decide) h34
          have hpc := piece_plain hlt hcm h34
          by_cases h123 : S[j] = 123
          · have f123 : ((S[j].toNat : Int) == 123) = true := byte_eq (k := 123) (by decide) h123
            have hop : openB S[j] o = o + 1 := by rw [h123]; rfl
            have HN := Lib.hid (HQ.out.step hlt hpc (by rw [hop]; omega))
            rw [hop] at HN
            have e0 : (((o : Int) + 1) == 0) = false := by simp; omega
            clear hcm h34 h123 hpc hop
            go_wp2_with (first | (go_at_call 27; refine (HCM.out _).mono ?_; rintro e w' ⟨rfl, rfl⟩))
            go_round
            case rel => exact ⟨j + 1, o + 1, by go_num, by go_num, HN.out⟩
            case measure => simp [intOf]; omega
          · have f123 : ((S[j].toNat : Int) == 123) = false := byte_ne (k := 123) (by decide) h123
            have ho1 : 1 ≤ o := by
              rcases HQ.out.first with ⟨_, _, h⟩ | h
              · exact absurd h h123
              · exact h
            by_cases h125 : S[j] = 125
            · have f125 : ((S[j].toNat : Int) == 125) = true := byte_eq (k := 125) (by decide) h125
              by_cases hoo : o = 1
              · subst hoo
                have HE := Lib.hid (HQ.out.close hlt h125)
                clear hcm h34 h123 h125 hpc
                go_wp2_with (first | (go_at_call 27; refine (HCM.out _).mono ?_; rintro e w' ⟨rfl, rfl⟩))
                refine bodyPost_ret (v := .tuple #[.int .i64 (j : Int), .bool true]) (by simp [results, Tryz.results53, go_sem]) rfl ⟨?_, rfl⟩
                have e9 : ((a + (j + 1 - a) : Nat) : Int) - 1 = (j : Int) := by omega
                rw [HE.out]
                unfold aT
                simp only [e9]
              · have hop : openB S[j] o = o - 1 := by rw [h125]; rfl
                have HN := Lib.hid (HQ.out.step hlt hpc (by rw [hop]; omega))
                rw [hop] at HN
                have e0 : (((o : Int) - 1) == 0) = false := by simp; omega
                have HO : Hid (((o - 1 : Nat) : Int) = (o : Int) - 1) := by show _ = _; omega
                clear hcm h34 h123 h125 hpc hop hoo
                go_wp2_with (first | (go_at_call 27; refine (HCM.out _).mono ?_; rintro e w' ⟨rfl, rfl⟩))
                go_round
                case rel => exact ⟨j + 1, o - 1, by go_num, by rw [HO.out], HN.out⟩
                case measure => simp [intOf]; omega
            · have f125 : ((S[j].toNat : Int) == 125) = false := byte_ne (k := 125) (by decide) h125
              have hop : openB S[j] o = o := by unfold openB; rw [if_neg (by simpa using h123), if_neg (by simpa using h125)]
              have HN := Lib.hid (HQ.out.step hlt hpc (by rw [hop]; omega))
              rw [hop] at HN
              have e0 : ((o : Int) == 0) = false := by simp; omega
              clear hcm h34 h123 h125 hpc hop
              go_wp2_with (first | (go_at_call 27; refine (HCM.out _).mono ?_; rintro e w' ⟨rfl, rfl⟩))
              go_round
              case rel => exact ⟨j + 1, o, by go_num, rfl, HN.out⟩
              case measure => simp [intOf]; omega
      · rw [hcm] at HCM
        obtain ⟨hpc, hop⟩ := piece_comment hlt hcm
        have ho1 : 1 ≤ o := by
          rcases HQ.out.first with ⟨_, _, h⟩ | h
          · have := hop 0
            rw [h] at this
            cases this
          · exact h
        have HN := Lib.hid (HQ.out.step hlt hpc (by rw [hop]; omega))
        rw [hop] at HN
        have hpos := (pieceB_len hpc).1
        have HOV := Lib.hid (fun w => rfOver_any S j w hS (by omega))
        clear hcm hpc hop
        go_wp2_with (first | (go_at_call 27; refine (HCM.out _).mono ?_; rintro e w' ⟨rfl, rfl⟩) | (go_at_call 28; refine (HOV.out _).mono ?_; rintro e w' ⟨rfl, rfl⟩))
        go_round
        case rel => exact ⟨j + tw notNL S j, o, rfl, rfl, HN.out⟩
        case measure => have := HN.out.hi; simp [intOf]; omega
    · have t1 : ¬ ((j : Int) < (S.size : Int)) := by omega
      have HE := Lib.hid (HQ.out.ended (by omega))
      go_wp2_with fail
      refine bodyPost_ret (v := .tuple #[.int .i64 0, .bool false]) (by simp [results, Tryz.results53, go_sem]) rfl ⟨?_, rfl⟩
      rw [HE.out]
      exact ⟨_, rfl⟩
end Go.Proofs.YtkcgccbmndgepaaGreatDoor
