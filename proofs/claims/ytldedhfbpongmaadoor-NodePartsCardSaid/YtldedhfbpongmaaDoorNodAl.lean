import Derived.Test.YtldedhfbpongmaaDoorNodAk
set_option maxRecDepth 100000
namespace NodT
open Go
/-- Does a node take just its kids? -/
def kidsB (t : Nd) : Bool := match eats t.kind t.num t.kids with
  | some [] => true
  | _ => false
end NodT
namespace Go.Proofs.YtldedhfbpongmaaDoor
open Go.Instr Go.RowKit NodT
set_option linter.unusedVariables false
theorem LookBox.under {w w' : World} {b : Nat} {t : Nd} {d : Int} {A : Option Addr} {n cap B : Nat} (h : LookBox w b t d A n cap) (hb : Below B w w') (hl : b < B) : LookBox w' b t d A n cap := h.keep (hb.block b hl)
def Passes (ok : Bool) (w : World) (e : Ending) (w' : World) : Prop := (ok = true ∧ e = .returned (.tuple #[]) ∧ Below w.heap.size w w') ∨ (ok = false ∧ e = .panicked misfits ∧ Below w.heap.size w w')
set_option maxHeartbeats 4000000 in
theorem takeKids_any (t : Nd) (d : Int) (w : World) (B : Nat) (h : In w B t) (hB : B ≤ w.heap.size) : Calls Tryd.prog 28 #[t.look d] w (Passes (kidsB t) w) := by
  have HNUM := Lib.hid h.fits.num
  have hbw0 : Below w.heap.size w (w.alloc (.cells #[.int .u8 t.kind, .string t.text, .int .i64 t.num, .int .i64 t.place, .slice t.addr t.kids.length t.cap, .int .i64 d] 42)) := (Below.refl _ _).alloc (Nat.le_refl _) _
  have hlb0 : LookBox (w.alloc (.cells #[.int .u8 t.kind, .string t.text, .int .i64 t.num, .int .i64 t.place, .slice t.addr t.kids.length t.cap, .int .i64 d] 42)) w.heap.size t d t.addr t.kids.length t.cap := by constructor <;> simp [go_sem]
  have hin0 := h.list.under (hbw0.mono hB)
  have hsz0 : w.heap.size < (w.alloc (.cells #[.int .u8 t.kind, .string t.text, .int .i64 t.num, .int .i64 t.place, .slice t.addr t.kids.length t.cap, .int .i64 d] 42)).heap.size := by simp
  obtain ⟨bl, hbl⟩ : ∃ bl, bl = w.heap.size := ⟨_, rfl⟩
  have hBb : B ≤ bl := by omega
  have HBL := Lib.hid hbl
  have HBW0 := Lib.hid hbw0
  have HLB0 := Lib.hid hlb0
  have HIN0 := Lib.hid hin0
  have HSZ0 := Lib.hid hsz0
  clear hbw0 hlb0 hin0 hsz0 h hbl
  unfold Nd.look Nd.row
  go_enter Tryd.func28, Tryd.ntmps28
  go_upto_region 2 with fail
  obtain ⟨W0, hW0⟩ : ∃ W0, W0 = (w.alloc (.cells #[.int .u8 t.kind, .string t.text, .int .i64 t.num, .int .i64 t.place, .slice t.addr t.kids.length t.cap, .int .i64 d] 42)) := ⟨_, rfl⟩
  rw [← hW0] at HBW0 HLB0 HIN0 HSZ0 ⊢
  clear hW0
  rw [← HBL.out] at HLB0 HSZ0 HBW0 ⊢
  have HLBW0 : Hid (LookBox W0 bl t d t.addr t.kids.length t.cap) := HLB0
  have HINW0 := HIN0
  have HBWW0 := HBW0
  have hszW0 : bl < W0.heap.size := HSZ0.out
  clear HLB0 HIN0 HBW0 HSZ0
  go_cut [3] (fun v wx => v = .bool ([9, 10, 11, 12, 13, 14, 15, 17, 18, 19, 20].contains t.kind) ∧ Below W0.heap.size W0 wx)
  case first =>
    have lb := HLBW0.out
    have hlz := lb.lt
    obtain ⟨q0, q1, q2, q3, q4, q5, _⟩ := lb
    have hn1 : ¬ bl = W0.heap.size := by omega
    have hn2 : ¬ bl = W0.heap.size + 1 := by omega
    have HC : Hid (Calls Tryd.prog 30 #[t.val, .pointer (some ⟨W0.heap.size + 1, 0, none⟩)] (((W0.alloc (.cells #[.int .u8 9, .int .u8 10, .int .u8 11, .int .u8 12, .int .u8 13, .int .u8 14, .int .u8 15, .int .u8 17, .int .u8 18, .int .u8 19, .int .u8 20] 22)).alloc (.cells #[.slice (some ⟨W0.heap.size, 0, none⟩) 11 11] 53)).drew) fun e w' => e = .returned (.bool ([9, 10, 11, 12, 13, 14, 15, 17, 18, 19, 20].contains t.kind)) ∧ Below (((W0.alloc (.cells #[.int .u8 9, .int .u8 10, .int .u8 11, .int .u8 12, .int .u8 13, .int .u8 14, .int .u8 15, .int .u8 17, .int .u8 18, .int .u8 19, .int .u8 20] 22)).alloc (.cells #[.slice (some ⟨W0.heap.size, 0, none⟩) 11 11] 53)).drew).heap.size (((W0.alloc (.cells #[.int .u8 9, .int .u8 10, .int .u8 11, .int .u8 12, .int .u8 13, .int .u8 14, .int .u8 15, .int .u8 17, .int .u8 18, .int .u8 19, .int .u8 20] 22)).alloc (.cells #[.slice (some ⟨W0.heap.size, 0, none⟩) 11 11] 53)).drew) w') :=
      ofS1_any t (W0.heap.size + 1) [9, 10, 11, 12, 13, 14, 15, 17, 18, 19, 20] _ ((KindsBox.new W0 [9, 10, 11, 12, 13, 14, 15, 17, 18, 19, 20] (by decide) (by decide) _ rfl).keep (by simp) (fun _ _ => rfl) (by simp)) (by simp)
    have HKE : Hid (∀ V1, Below (((W0.alloc (.cells #[.int .u8 9, .int .u8 10, .int .u8 11, .int .u8 12, .int .u8 13, .int .u8 14, .int .u8 15, .int .u8 17, .int .u8 18, .int .u8 19, .int .u8 20] 22)).alloc (.cells #[.slice (some ⟨W0.heap.size, 0, none⟩) 11 11] 53)).drew).heap.size (((W0.alloc (.cells #[.int .u8 9, .int .u8 10, .int .u8 11, .int .u8 12, .int .u8 13, .int .u8 14, .int .u8 15, .int .u8 17, .int .u8 18, .int .u8 19, .int .u8 20] 22)).alloc (.cells #[.slice (some ⟨W0.heap.size, 0, none⟩) 11 11] 53)).drew) V1 → Below W0.heap.size W0 V1 ∧ ∀ o, V1.cell? ⟨bl, o, none⟩ = W0.cell? ⟨bl, o, none⟩) := fun V1 h => by
      have h1 : Below W0.heap.size W0 V1 := ((((Below.refl _ _).alloc (Nat.le_refl _) _).alloc (by simp) _).drew).trans (h.mono (by simp; omega))
      exact ⟨h1, fun o => h1.cell (p := ⟨bl, o, none⟩) hlz⟩
    go_region_held3 (fun V => V.cell? ⟨bl, 0, none⟩ = some (.int .u8 t.kind) ∧ V.cell? ⟨bl, 1, none⟩ = some (.string t.text) ∧ V.cell? ⟨bl, 2, none⟩ = some (.int .i64 t.num) ∧ V.cell? ⟨bl, 3, none⟩ = some (.int .i64 t.place) ∧ V.cell? ⟨bl, 4, none⟩ = some (.slice t.addr t.kids.length t.cap)) (first | go_keep | (refine ⟨?_, ?_, ?_, ?_, ?_⟩ <;> (rw [(HKE.out _ (by assumption)).2]; assumption))) (first | (go_at_call 36; refine (statements_any _).mono ?_; rintro e w' ⟨rfl, rfl⟩) | (go_at_call 30; refine HC.out.mono ?_; rintro e w9 ⟨rfl, hb9⟩))
    all_goals
      go_wp2_with fail
      go_meet
      exact ⟨by simp, (HKE.out _ hb9).1⟩
  case rest =>
    obtain ⟨hv, hbc⟩ := hcut
    generalize wc = W1 at *
    have HLBW1 := Lib.hid (HLBW0.out.under hbc hszW0)
    have HINW1 := Lib.hid (HINW0.out.under (hbc.mono (by omega)))
    have hbw : Below bl w W1 := HBWW0.out.trans (hbc.mono (by omega))
    have hszW1 : bl < W1.heap.size := by have := hbc.size; omega
    have hclw : bl ≤ w.heap.size := by rw [HBL.out]; exact Nat.le_refl _
    by_cases hkk : t.kind ∈ [9, 10, 11, 12, 13, 14, 15, 17, 18, 19, 20]
    · have hct : [9, 10, 11, 12, 13, 14, 15, 17, 18, 19, 20].contains t.kind = true := by simpa using hkk
      rw [hct] at hv
      subst hv
      clear hct
      have hT := takes_statement t d bl B t.addr t.cap t.kids W1 hkk HLBW1.out HINW1.out hBb HNUM.out
      clear hkk
      cases hs : eats t.kind t.num t.kids with
      | none =>
        have HS := Lib.hid hs
        rw [hs] at hT
        have HT := Lib.hid hT
        clear hT hs
        go_wp2_with (go_at_call 37; refine HT.out.mono ?_; rintro e w5 ⟨rfl, hg⟩)
        refine ⟨rfl, ?_⟩
        exact .inr ⟨by simp [kidsB, HS.out], rfl, by rw [← HBL.out]; exact hbw.trans (below_of_grown hg (by omega) (fun k hk => by injection hk; omega))⟩
      | some K' =>
        have HS := Lib.hid hs
        rw [hs] at hT
        have HT := Lib.hid hT
        clear hT hs
        cases K' with
        | nil =>
          go_wp2_with (first | (go_at_call 37; refine HT.out.mono ?_; rintro e w5 ⟨rfl, hg, A5, c5, hl5, _⟩; (have q4 := hl5.c4); (simp only [List.length_nil] at q4)) | (go_at_call 23; refine (must_yes _).mono ?_; rintro e w' ⟨rfl, rfl⟩))
          go_end0
          exact .inl ⟨by simp [kidsB, HS.out], rfl, by rw [← HBL.out]; exact hbw.trans (below_of_grown hg (by omega) (fun k hk => by injection hk; omega))⟩
        | cons u us =>
          have hne : (((u :: us).length : Int) == 0) = false := by rw [beq_eq_false_iff_ne]; simp only [List.length_cons]; omega
          generalize hul : (u :: us).length = m at *
          have HUL := Lib.hid hul
          clear hul
          go_wp2_with (first | (go_at_call 37; refine HT.out.mono ?_; rintro e w5 ⟨rfl, hg, A5, c5, hl5, _⟩; (have q4 := hl5.c4); (rw [HUL.out] at q4)) | (go_at_call 23; refine (must_no _).mono ?_; rintro e w' ⟨rfl, rfl⟩))
          refine ⟨rfl, ?_⟩
          exact .inr ⟨by simp [kidsB, HS.out], rfl, by rw [← HBL.out]; exact hbw.trans (below_of_grown hg (by omega) (fun k hk => by injection hk; omega))⟩
    · have hdc : [9, 10, 11, 12, 13, 14, 15, 17, 18, 19, 20].contains t.kind = false := by rw [← Bool.not_eq_true]; intro h; exact hkk (by simpa using h)
      rw [hdc] at hv
      subst hv
      have HK1 := Lib.hid hkk
      clear hkk hdc
      go_upto_region 4 with fail
      go_cut [9] (fun v wx => v = .bool ([21, 22, 23, 24, 25, 26, 27, 28, 29, 30, 31, 32, 33, 35].contains t.kind) ∧ Below W1.heap.size W1 wx)
      case first =>
        have lb := HLBW1.out
        have hlz := lb.lt
        obtain ⟨q0, q1, q2, q3, q4, q5, _⟩ := lb
        have hn1 : ¬ bl = W1.heap.size := by omega
        have hn2 : ¬ bl = W1.heap.size + 1 := by omega
        have HC : Hid (Calls Tryd.prog 30 #[t.val, .pointer (some ⟨W1.heap.size + 1, 0, none⟩)] (((W1.alloc (.cells #[.int .u8 21, .int .u8 22, .int .u8 23, .int .u8 24, .int .u8 25, .int .u8 26, .int .u8 27, .int .u8 28, .int .u8 29, .int .u8 30, .int .u8 31, .int .u8 32, .int .u8 33, .int .u8 35] 22)).alloc (.cells #[.slice (some ⟨W1.heap.size, 0, none⟩) 14 14] 53)).drew) fun e w' => e = .returned (.bool ([21, 22, 23, 24, 25, 26, 27, 28, 29, 30, 31, 32, 33, 35].contains t.kind)) ∧ Below (((W1.alloc (.cells #[.int .u8 21, .int .u8 22, .int .u8 23, .int .u8 24, .int .u8 25, .int .u8 26, .int .u8 27, .int .u8 28, .int .u8 29, .int .u8 30, .int .u8 31, .int .u8 32, .int .u8 33, .int .u8 35] 22)).alloc (.cells #[.slice (some ⟨W1.heap.size, 0, none⟩) 14 14] 53)).drew).heap.size (((W1.alloc (.cells #[.int .u8 21, .int .u8 22, .int .u8 23, .int .u8 24, .int .u8 25, .int .u8 26, .int .u8 27, .int .u8 28, .int .u8 29, .int .u8 30, .int .u8 31, .int .u8 32, .int .u8 33, .int .u8 35] 22)).alloc (.cells #[.slice (some ⟨W1.heap.size, 0, none⟩) 14 14] 53)).drew) w') :=
          ofS1_any t (W1.heap.size + 1) [21, 22, 23, 24, 25, 26, 27, 28, 29, 30, 31, 32, 33, 35] _ ((KindsBox.new W1 [21, 22, 23, 24, 25, 26, 27, 28, 29, 30, 31, 32, 33, 35] (by decide) (by decide) _ rfl).keep (by simp) (fun _ _ => rfl) (by simp)) (by simp)
        have HKE : Hid (∀ V1, Below (((W1.alloc (.cells #[.int .u8 21, .int .u8 22, .int .u8 23, .int .u8 24, .int .u8 25, .int .u8 26, .int .u8 27, .int .u8 28, .int .u8 29, .int .u8 30, .int .u8 31, .int .u8 32, .int .u8 33, .int .u8 35] 22)).alloc (.cells #[.slice (some ⟨W1.heap.size, 0, none⟩) 14 14] 53)).drew).heap.size (((W1.alloc (.cells #[.int .u8 21, .int .u8 22, .int .u8 23, .int .u8 24, .int .u8 25, .int .u8 26, .int .u8 27, .int .u8 28, .int .u8 29, .int .u8 30, .int .u8 31, .int .u8 32, .int .u8 33, .int .u8 35] 22)).alloc (.cells #[.slice (some ⟨W1.heap.size, 0, none⟩) 14 14] 53)).drew) V1 → Below W1.heap.size W1 V1 ∧ ∀ o, V1.cell? ⟨bl, o, none⟩ = W1.cell? ⟨bl, o, none⟩) := fun V1 h => by
          have h1 : Below W1.heap.size W1 V1 := ((((Below.refl _ _).alloc (Nat.le_refl _) _).alloc (by simp) _).drew).trans (h.mono (by simp; omega))
          exact ⟨h1, fun o => h1.cell (p := ⟨bl, o, none⟩) hlz⟩
        go_region_held3 (fun V => V.cell? ⟨bl, 0, none⟩ = some (.int .u8 t.kind) ∧ V.cell? ⟨bl, 1, none⟩ = some (.string t.text) ∧ V.cell? ⟨bl, 2, none⟩ = some (.int .i64 t.num) ∧ V.cell? ⟨bl, 3, none⟩ = some (.int .i64 t.place) ∧ V.cell? ⟨bl, 4, none⟩ = some (.slice t.addr t.kids.length t.cap)) (first | go_keep | (refine ⟨?_, ?_, ?_, ?_, ?_⟩ <;> (rw [(HKE.out _ (by assumption)).2]; assumption))) (first | (go_at_call 38; refine (expressions_any _).mono ?_; rintro e w' ⟨rfl, rfl⟩) | (go_at_call 30; refine HC.out.mono ?_; rintro e w9 ⟨rfl, hb9⟩))
        all_goals
          go_wp2_with fail
          go_meet
          exact ⟨by simp, (HKE.out _ hb9).1⟩
      case rest =>
        obtain ⟨hv, hbc2⟩ := hcut
        generalize wc = W2 at *
        have HLBW2 := Lib.hid (HLBW1.out.under hbc2 hszW1)
        have HINW2 := Lib.hid (HINW1.out.under (hbc2.mono (by omega)))
        have hbw2 : Below bl w W2 := hbw.trans (hbc2.mono (by omega))
        have hszW2 : bl < W2.heap.size := by have := hbc2.size; omega
        clear hbw
        have hbw := hbw2
        clear hbw2
        by_cases hkk : t.kind ∈ [21, 22, 23, 24, 25, 26, 27, 28, 29, 30, 31, 32, 33, 35]
        · have hdc2 : [21, 22, 23, 24, 25, 26, 27, 28, 29, 30, 31, 32, 33, 35].contains t.kind = true := by simpa using hkk
          rw [hdc2] at hv
          subst hv
          clear hdc2
          have hT := takes_expression t d bl B t.addr t.cap t.kids W2 hkk HLBW2.out HINW2.out hBb HNUM.out
          clear hkk
          cases hs : eats t.kind t.num t.kids with
          | none =>
            have HS := Lib.hid hs
            rw [hs] at hT
            have HT := Lib.hid hT
            clear hT hs
            go_wp2_with (go_at_call 39; refine HT.out.mono ?_; rintro e w5 ⟨rfl, hg⟩)
            refine ⟨rfl, ?_⟩
            exact .inr ⟨by simp [kidsB, HS.out], rfl, by rw [← HBL.out]; exact hbw.trans (below_of_grown hg (by omega) (fun k hk => by injection hk; omega))⟩
          | some K' =>
            have HS := Lib.hid hs
            rw [hs] at hT
            have HT := Lib.hid hT
            clear hT hs
            cases K' with
            | nil =>
              go_wp2_with (first | (go_at_call 39; refine HT.out.mono ?_; rintro e w5 ⟨rfl, hg, A5, c5, hl5, _⟩; (have q4 := hl5.c4); (simp only [List.length_nil] at q4)) | (go_at_call 23; refine (must_yes _).mono ?_; rintro e w' ⟨rfl, rfl⟩))
              go_end0
              exact .inl ⟨by simp [kidsB, HS.out], rfl, by rw [← HBL.out]; exact hbw.trans (below_of_grown hg (by omega) (fun k hk => by injection hk; omega))⟩
            | cons u us =>
              have hne : (((u :: us).length : Int) == 0) = false := by rw [beq_eq_false_iff_ne]; simp only [List.length_cons]; omega
              generalize hul : (u :: us).length = m at *
              have HUL := Lib.hid hul
              clear hul
              go_wp2_with (first | (go_at_call 39; refine HT.out.mono ?_; rintro e w5 ⟨rfl, hg, A5, c5, hl5, _⟩; (have q4 := hl5.c4); (rw [HUL.out] at q4)) | (go_at_call 23; refine (must_no _).mono ?_; rintro e w' ⟨rfl, rfl⟩))
              refine ⟨rfl, ?_⟩
              exact .inr ⟨by simp [kidsB, HS.out], rfl, by rw [← HBL.out]; exact hbw.trans (below_of_grown hg (by omega) (fun k hk => by injection hk; omega))⟩
        · have hdc2 : [21, 22, 23, 24, 25, 26, 27, 28, 29, 30, 31, 32, 33, 35].contains t.kind = false := by rw [← Bool.not_eq_true]; intro h; exact hkk (by simpa using h)
          rw [hdc2] at hv
          subst hv
          clear hdc2
          have hT := takes_other t d bl B t.addr t.cap t.kids W2 HK1.out hkk HLBW2.out HINW2.out hBb HNUM.out
          clear hkk
          cases hs : eats t.kind t.num t.kids with
          | none =>
            have HS := Lib.hid hs
            rw [hs] at hT
            have HT := Lib.hid hT
            clear hT hs
            go_wp2_with (go_at_call 40; refine HT.out.mono ?_; rintro e w5 ⟨rfl, hg⟩)
            refine ⟨rfl, ?_⟩
            exact .inr ⟨by simp [kidsB, HS.out], rfl, by rw [← HBL.out]; exact hbw.trans (below_of_grown hg (by omega) (fun k hk => by injection hk; omega))⟩
          | some K' =>
            have HS := Lib.hid hs
            rw [hs] at hT
            have HT := Lib.hid hT
            clear hT hs
            cases K' with
            | nil =>
              go_wp2_with (first | (go_at_call 40; refine HT.out.mono ?_; rintro e w5 ⟨rfl, hg, A5, c5, hl5, _⟩; (have q4 := hl5.c4); (simp only [List.length_nil] at q4)) | (go_at_call 23; refine (must_yes _).mono ?_; rintro e w' ⟨rfl, rfl⟩))
              go_end0
              exact .inl ⟨by simp [kidsB, HS.out], rfl, by rw [← HBL.out]; exact hbw.trans (below_of_grown hg (by omega) (fun k hk => by injection hk; omega))⟩
            | cons u us =>
              have hne : (((u :: us).length : Int) == 0) = false := by rw [beq_eq_false_iff_ne]; simp only [List.length_cons]; omega
              generalize hul : (u :: us).length = m at *
              have HUL := Lib.hid hul
              clear hul
              go_wp2_with (first | (go_at_call 40; refine HT.out.mono ?_; rintro e w5 ⟨rfl, hg, A5, c5, hl5, _⟩; (have q4 := hl5.c4); (rw [HUL.out] at q4)) | (go_at_call 23; refine (must_no _).mono ?_; rintro e w' ⟨rfl, rfl⟩))
              refine ⟨rfl, ?_⟩
              exact .inr ⟨by simp [kidsB, HS.out], rfl, by rw [← HBL.out]; exact hbw.trans (below_of_grown hg (by omega) (fun k hk => by injection hk; omega))⟩
end Go.Proofs.YtldedhfbpongmaaDoor
