import Derived.Test.YtldedhfbpongmaaDoorNodX
import Derived.Test.YtldedhfbpongmaaDoorNodF
set_option maxRecDepth 100000
namespace NodT
open Go
/-- A place, looked for so many deep. -/
def placeOf : Nat → Nd → Bool
  | 0, t => [25, 35].contains t.kind
  | f + 1, t => match t.kids with
    | [] => [25, 35].contains t.kind
    | u :: _ => if [29, 31].contains t.kind then placeOf f u else [25, 35].contains t.kind
def placeB (t : Nd) : Bool := placeOf 60 t
end NodT
namespace Go.Proofs.YtldedhfbpongmaaDoor
open Go.Instr Go.RowKit NodT
set_option linter.unusedVariables false
set_option maxHeartbeats 1000000 in
theorem isPlace_any (t : Nd) (w : World) (B : Nat) (h : In w B t) (hB : B ≤ w.heap.size) : Calls Tryd.prog 53 #[t.val] w fun e w' => e = .returned (.bool (placeB t)) ∧ Below w.heap.size w w' := by
  have H0 := Lib.hid h
  clear h
  unfold Nd.val Nd.row
  go_enter Tryd.func53, Tryd.ntmps53
  go_wp2_with (first | (go_at_call 24; refine (of_any _ _ _ _ _).mono ?_; rintro e w' ⟨rfl, rfl⟩))
  have hW : ∀ (o1 o2 o3 : Obj), Below w.heap.size w (((w.alloc o1).alloc o2).alloc o3) := fun o1 o2 o3 => (((Below.refl _ _).alloc (Nat.le_refl _) _).alloc (by simp) _).alloc (by simp; omega) _
  have hbx : ∀ (o2 o3 : Obj), Blk5 (((w.alloc (.cells #[.int .u8 t.kind, .string t.text, .int .i64 t.num, .int .i64 t.place, .slice t.addr t.kids.length t.cap] 25)).alloc o2).alloc o3) w.heap.size (.int .u8 t.kind) (.string t.text) (.int .i64 t.num) (.int .i64 t.place) (.slice t.addr t.kids.length t.cap) := fun o2 o3 =>
    (Blk5.new w 25 _ _ _ _ _).under (((Below.refl (w.heap.size + 1) _).alloc (by simp) _).alloc (by simp) _) (by omega)
  have hkx := KindsBoxAt.new (w.alloc (.cells #[.int .u8 t.kind, .string t.text, .int .i64 t.num, .int .i64 t.place, .slice t.addr t.kids.length t.cap] 25)) [29, 31] (by simp) (by simp) _ rfl
  have hsz : (w.alloc (.cells #[.int .u8 t.kind, .string t.text, .int .i64 t.num, .int .i64 t.place, .slice t.addr t.kids.length t.cap] 25)).heap.size = w.heap.size + 1 := by simp
  rw [hsz] at hkx
  have HSTART : Hid (∀ W, (((w.alloc (.cells #[.int .u8 t.kind, .string t.text, .int .i64 t.num, .int .i64 t.place, .slice t.addr t.kids.length t.cap] 25)).alloc (.cells #[.int .u8 29, .int .u8 31] 22)).alloc (.cells #[.slice (some ⟨w.heap.size + 1, 0, none⟩) 2 2] 53)) = W → In W B t ∧ Blk5 W w.heap.size (.int .u8 t.kind) (.string t.text) (.int .i64 t.num) (.int .i64 t.place) (.slice t.addr t.kids.length t.cap) ∧ KindsBoxAt W (w.heap.size + 1 + 1) (w.heap.size + 1) [29, 31] ∧ Below w.heap.size w W ∧ w.heap.size + 3 ≤ W.heap.size) := by
    rintro W rfl
    exact ⟨H0.out.under ((hW _ _ _).mono hB), hbx _ _, hkx, hW _ _ _, by simp⟩
  clear hW hbx hkx hsz
  obtain ⟨z1, z2, z3, z4, z5⟩ := HSTART.out _ rfl
  generalize (((w.alloc (.cells #[.int .u8 t.kind, .string t.text, .int .i64 t.num, .int .i64 t.place, .slice t.addr t.kids.length t.cap] 25)).alloc (.cells #[.int .u8 29, .int .u8 31] 22)).alloc (.cells #[.slice (some ⟨w.heap.size + 1, 0, none⟩) 2 2] 53)) = W3 at z1 z2 z3 z4 z5 ⊢
  clear HSTART
  go_loopg [6] 60 (fun g i wr => ∃ (k : Nat) (x : Nd), k ≤ 60 ∧ g = 60 - k ∧ i = .int .i64 k ∧ In wr B x ∧ Blk5 wr w.heap.size (.int .u8 x.kind) (.string x.text) (.int .i64 x.num) (.int .i64 x.place) (.slice x.addr x.kids.length x.cap) ∧ placeB t = placeOf (60 - k) x ∧ KindsBoxAt wr (w.heap.size + 1 + 1) (w.heap.size + 1) [29, 31] ∧ Below w.heap.size w wr ∧ w.heap.size + 3 ≤ wr.heap.size)
  case atStart => exact ⟨0, t, by omega, rfl, rfl, z1, z2, rfl, z3, z4, z5⟩
  case round =>
    clear z1 z2 z3 z4 z5
    obtain ⟨k, x, hk, hgk, rfl, hx, bx, hplace, hkb, hbl, hz⟩ := hrel
    have HGK := Lib.hid hgk
    clear hgk
    by_cases hlt : k < 60
    · have hsucc : 60 - k = (59 - k) + 1 := by omega
      have hcl := ofS1_any x (w.heap.size + 1 + 1) [29, 31] wr hkb.box (by omega)
      have HCL := Lib.hid hcl
      have hx5 := hx.list.len
      have hx6 := hx.list.cap
      unfold maxLen at hx6
      cases hcon : [29, 31].contains x.kind
      · have hpl : placeB t = [25, 35].contains x.kind := by
          rw [hplace, hsucc]
          unfold placeOf
          rw [hcon]
          cases x.kids <;> rfl
        rw [hcon] at HCL
        clear hplace hcl hcon hsucc
        have BX := Lib.hid bx
        obtain ⟨q0, q1, q2, q3, q4, f0, f1, f2, f3, f4⟩ := bx
        go_upto_region 7 with (go_at_call 30; refine HCL.out.mono ?_; rintro e wz ⟨rfl, hbq⟩)
        have bx := BX.out.under hbq (by omega)
        have hbz := hbl.trans (hbq.mono (by omega))
        have hzz : w.heap.size + 3 ≤ wz.heap.size := by have := hbq.size; omega
        clear q0 q1 q2 q3 q4 f0 f1 f2 f3 f4 hbl hz
        have hplace := hpl
        clear hpl
        have hE := Lib.hid hplace
        clear hplace
        have q0 := bx.c0
        have q1 := bx.c1
        have q2 := bx.c2
        have q3 := bx.c3
        have q4 := bx.c4
        have hlz : w.heap.size < wz.heap.size := by omega
        have hn1 : ¬ w.heap.size = wz.heap.size := by omega
        have hn2 : ¬ w.heap.size = wz.heap.size + 1 := by omega
        have HC : Hid (Calls Tryd.prog 30 #[x.val, .pointer (some ⟨wz.heap.size + 1, 0, none⟩)] (((wz.alloc (.cells #[.int .u8 25, .int .u8 35] 22)).alloc (.cells #[.slice (some ⟨wz.heap.size, 0, none⟩) 2 2] 53)).drew) fun e w' => e = .returned (.bool ([25, 35].contains x.kind)) ∧ Below (((wz.alloc (.cells #[.int .u8 25, .int .u8 35] 22)).alloc (.cells #[.slice (some ⟨wz.heap.size, 0, none⟩) 2 2] 53)).drew).heap.size (((wz.alloc (.cells #[.int .u8 25, .int .u8 35] 22)).alloc (.cells #[.slice (some ⟨wz.heap.size, 0, none⟩) 2 2] 53)).drew) w') :=
          ofS1_any x (wz.heap.size + 1) [25, 35] _ ((KindsBox.new wz [25, 35] (by simp) (by simp) _ rfl).keep (by simp) (fun _ _ => rfl) (by simp)) (by simp)
        have HKE : Hid (∀ W1, Below (((wz.alloc (.cells #[.int .u8 25, .int .u8 35] 22)).alloc (.cells #[.slice (some ⟨wz.heap.size, 0, none⟩) 2 2] 53)).drew).heap.size (((wz.alloc (.cells #[.int .u8 25, .int .u8 35] 22)).alloc (.cells #[.slice (some ⟨wz.heap.size, 0, none⟩) 2 2] 53)).drew) W1 → Below wz.heap.size wz W1 ∧ ∀ o, W1.cell? ⟨w.heap.size, o, none⟩ = wz.cell? ⟨w.heap.size, o, none⟩) := fun W1 h => by
          have h1 : Below wz.heap.size wz W1 := ((((Below.refl _ _).alloc (Nat.le_refl _) _).alloc (by simp) _).drew).trans (h.mono (by simp; omega))
          exact ⟨h1, fun o => h1.cell (p := ⟨w.heap.size, o, none⟩) hlz⟩
        go_region_held3 (fun W => W.cell? ⟨w.heap.size, 0, none⟩ = some (.int .u8 x.kind) ∧ W.cell? ⟨w.heap.size, 1, none⟩ = some (.string x.text) ∧ W.cell? ⟨w.heap.size, 2, none⟩ = some (.int .i64 x.num) ∧ W.cell? ⟨w.heap.size, 3, none⟩ = some (.int .i64 x.place) ∧ W.cell? ⟨w.heap.size, 4, none⟩ = some (.slice x.addr x.kids.length x.cap)) (first | go_keep | (refine ⟨?_, ?_, ?_, ?_, ?_⟩ <;> (rw [(HKE.out _ (by assumption)).2]; assumption))) (first | (go_at_call 24; refine (of_any _ _ _ _ _).mono ?_; rintro e w' ⟨rfl, rfl⟩) | (go_at_call 30; refine HC.out.mono ?_; rintro e w9 ⟨rfl, hb9⟩))
        all_goals
          go_wp2_with fail
          go_ret
          exact ⟨ret_bool (by rw [hE.out]; simp), hbz.trans ((HKE.out _ hb9).1.mono (by omega))⟩
      · rw [hcon] at HCL
        clear hcl
        cases hkids : x.kids with
        | nil =>
          have hpl : placeB t = [25, 35].contains x.kind := by
            rw [hplace, hsucc]
            unfold placeOf
            rw [hkids]
          have hlen0 : Hid (x.kids.length = 0) := by show _ = 0; rw [hkids]; rfl
          clear hplace hcon hsucc hkids
          have BX := Lib.hid bx
          obtain ⟨q0, q1, q2, q3, q4, f0, f1, f2, f3, f4⟩ := bx
          unfold Nd.val Nd.row at HCL
          rw [hlen0.out] at q4 HCL
          go_upto_region 7 with (go_at_call 30; refine HCL.out.mono ?_; rintro e wz ⟨rfl, hbq⟩; have q4' := (hbq.cell (p := ⟨w.heap.size, 4, none⟩) (show w.heap.size < wr.heap.size by omega)).trans q4)
          have bx := BX.out.under hbq (by omega)
          have hbz := hbl.trans (hbq.mono (by omega))
          have hzz : w.heap.size + 3 ≤ wz.heap.size := by have := hbq.size; omega
          clear q0 q1 q2 q3 q4 f0 f1 f2 f3 f4 hbl hz q4'
          have hplace := hpl
          clear hpl
          have hE := Lib.hid hplace
          clear hplace
          have q0 := bx.c0
          have q1 := bx.c1
          have q2 := bx.c2
          have q3 := bx.c3
          have q4 := bx.c4
          have hlz : w.heap.size < wz.heap.size := by omega
          have hn1 : ¬ w.heap.size = wz.heap.size := by omega
          have hn2 : ¬ w.heap.size = wz.heap.size + 1 := by omega
          have HC : Hid (Calls Tryd.prog 30 #[x.val, .pointer (some ⟨wz.heap.size + 1, 0, none⟩)] (((wz.alloc (.cells #[.int .u8 25, .int .u8 35] 22)).alloc (.cells #[.slice (some ⟨wz.heap.size, 0, none⟩) 2 2] 53)).drew) fun e w' => e = .returned (.bool ([25, 35].contains x.kind)) ∧ Below (((wz.alloc (.cells #[.int .u8 25, .int .u8 35] 22)).alloc (.cells #[.slice (some ⟨wz.heap.size, 0, none⟩) 2 2] 53)).drew).heap.size (((wz.alloc (.cells #[.int .u8 25, .int .u8 35] 22)).alloc (.cells #[.slice (some ⟨wz.heap.size, 0, none⟩) 2 2] 53)).drew) w') :=
            ofS1_any x (wz.heap.size + 1) [25, 35] _ ((KindsBox.new wz [25, 35] (by simp) (by simp) _ rfl).keep (by simp) (fun _ _ => rfl) (by simp)) (by simp)
          have HKE : Hid (∀ W1, Below (((wz.alloc (.cells #[.int .u8 25, .int .u8 35] 22)).alloc (.cells #[.slice (some ⟨wz.heap.size, 0, none⟩) 2 2] 53)).drew).heap.size (((wz.alloc (.cells #[.int .u8 25, .int .u8 35] 22)).alloc (.cells #[.slice (some ⟨wz.heap.size, 0, none⟩) 2 2] 53)).drew) W1 → Below wz.heap.size wz W1 ∧ ∀ o, W1.cell? ⟨w.heap.size, o, none⟩ = wz.cell? ⟨w.heap.size, o, none⟩) := fun W1 h => by
            have h1 : Below wz.heap.size wz W1 := ((((Below.refl _ _).alloc (Nat.le_refl _) _).alloc (by simp) _).drew).trans (h.mono (by simp; omega))
            exact ⟨h1, fun o => h1.cell (p := ⟨w.heap.size, o, none⟩) hlz⟩
          go_region_held3 (fun W => W.cell? ⟨w.heap.size, 0, none⟩ = some (.int .u8 x.kind) ∧ W.cell? ⟨w.heap.size, 1, none⟩ = some (.string x.text) ∧ W.cell? ⟨w.heap.size, 2, none⟩ = some (.int .i64 x.num) ∧ W.cell? ⟨w.heap.size, 3, none⟩ = some (.int .i64 x.place) ∧ W.cell? ⟨w.heap.size, 4, none⟩ = some (.slice x.addr x.kids.length x.cap)) (first | go_keep | (refine ⟨?_, ?_, ?_, ?_, ?_⟩ <;> (rw [(HKE.out _ (by assumption)).2]; assumption))) (first | (go_at_call 24; refine (of_any _ _ _ _ _).mono ?_; rintro e w' ⟨rfl, rfl⟩) | (go_at_call 30; refine HC.out.mono ?_; rintro e w9 ⟨rfl, hb9⟩))
          all_goals
            go_wp2_with fail
            go_ret
            exact ⟨ret_bool (by rw [hE.out]; simp), hbz.trans ((HKE.out _ hb9).1.mono (by omega))⟩
        | cons u us =>
          have hu : x.kids[0]? = some u := by rw [hkids]; rfl
          have hpl : placeB t = placeOf (60 - (k + 1)) u := by
            rw [hplace, hsucc]
            unfold placeOf
            rw [hkids]
            simp only [hcon, if_true]
            have : 60 - (k + 1) = 59 - k := by omega
            rw [this]
            cases 59 - k <;> rfl
          have hl0 : 0 < x.kids.length := by rw [hkids]; simp
          have hne : ((x.kids.length : Int) == 0) = false := by rw [beq_eq_false_iff_ne]; omega
          obtain ⟨ab, ao, ha, hab, c0, c1, c2, c3, c4⟩ := hx.at_ hu
          have hiu := hx.kid hu
          clear hkids hcon hsucc hplace hu
          have BX := Lib.hid bx
          obtain ⟨q0, q1, q2, q3, q4, f0, f1, f2, f3, f4⟩ := bx
          simp only [Nat.zero_mul, Nat.add_zero] at c0 c1 c2 c3 c4
          unfold Nd.val Nd.row at HCL
          have hlw : w.heap.size < wr.heap.size := by omega
          have haw : ab < wr.heap.size := by omega
          generalize hxa : x.addr = XA at *
          subst ha
          go_wp2_with (go_at_call 30; refine HCL.out.mono ?_; rintro e wz ⟨rfl, hbq⟩; (have p0 := hbq.cell (p := ⟨w.heap.size, 0, none⟩) hlw); (have p1 := hbq.cell (p := ⟨w.heap.size, 1, none⟩) hlw); (have p2 := hbq.cell (p := ⟨w.heap.size, 2, none⟩) hlw); (have p3 := hbq.cell (p := ⟨w.heap.size, 3, none⟩) hlw); (have p4 := hbq.cell (p := ⟨w.heap.size, 4, none⟩) hlw); (have p5 := hbq.frozen (p := ⟨w.heap.size, 0, none⟩) hlw); (have p6 := hbq.frozen (p := ⟨w.heap.size, 1, none⟩) hlw); (have p7 := hbq.frozen (p := ⟨w.heap.size, 2, none⟩) hlw); (have p8 := hbq.frozen (p := ⟨w.heap.size, 3, none⟩) hlw); (have p9 := hbq.frozen (p := ⟨w.heap.size, 4, none⟩) hlw); (have r0 := hbq.cell (p := ⟨ab, ao, none⟩) haw); (have r1 := hbq.cell (p := ⟨ab, ao + 1, none⟩) haw); (have r2 := hbq.cell (p := ⟨ab, ao + 2, none⟩) haw); (have r3 := hbq.cell (p := ⟨ab, ao + 3, none⟩) haw); (have r4 := hbq.cell (p := ⟨ab, ao + 4, none⟩) haw))
          go_roundg (60 - (k + 1))
          case rel =>
            have hbx2 := BX.out.under hbq (by omega)
            refine ⟨k + 1, u, by omega, rfl, by go_num, ?_, hbx2.put5 _ _ _ _ _, hpl, ?_, put5_below (hbl.trans (hbq.mono (by omega))) (Nat.le_refl _) _ _ _ _ _, ?_⟩
            · exact (hiu.under (hbq.mono (by omega))).keep fun p hp => put5_cell _ _ _ _ _ _ _ _ (by omega)
            · refine hkb.keep (fun p hp => ?_) ?_
              · exact (put5_cell _ _ _ _ _ _ _ _ (by rcases hp with h | h <;> omega)).trans (hbq.cell (by rcases hp with h | h <;> omega))
              · have := hbq.size; have e := put5_size wz w.heap.size (.int .u8 u.kind) (.string u.text) (.int .i64 u.num) (.int .i64 u.place) (.slice u.addr u.kids.length u.cap); unfold put5 at e; rw [e]; omega
            · have := hbq.size; have e := put5_size wz w.heap.size (.int .u8 u.kind) (.string u.text) (.int .i64 u.num) (.int .i64 u.place) (.slice u.addr u.kids.length u.cap); unfold put5 at e; rw [e]; omega
          case measure => rw [HGK.out]; omega
    · have hk60 : k = 60 := by omega
      rw [hk60] at hplace
      clear hk60
      go_upto_region 7 with fail
      generalize wr = wz at *
      have hE := Lib.hid hplace
      clear hplace
      have q0 := bx.c0
      have q1 := bx.c1
      have q2 := bx.c2
      have q3 := bx.c3
      have q4 := bx.c4
      have hlz : w.heap.size < wz.heap.size := by omega
      have hn1 : ¬ w.heap.size = wz.heap.size := by omega
      have hn2 : ¬ w.heap.size = wz.heap.size + 1 := by omega
      have HC : Hid (Calls Tryd.prog 30 #[x.val, .pointer (some ⟨wz.heap.size + 1, 0, none⟩)] (((wz.alloc (.cells #[.int .u8 25, .int .u8 35] 22)).alloc (.cells #[.slice (some ⟨wz.heap.size, 0, none⟩) 2 2] 53)).drew) fun e w' => e = .returned (.bool ([25, 35].contains x.kind)) ∧ Below (((wz.alloc (.cells #[.int .u8 25, .int .u8 35] 22)).alloc (.cells #[.slice (some ⟨wz.heap.size, 0, none⟩) 2 2] 53)).drew).heap.size (((wz.alloc (.cells #[.int .u8 25, .int .u8 35] 22)).alloc (.cells #[.slice (some ⟨wz.heap.size, 0, none⟩) 2 2] 53)).drew) w') :=
        ofS1_any x (wz.heap.size + 1) [25, 35] _ ((KindsBox.new wz [25, 35] (by simp) (by simp) _ rfl).keep (by simp) (fun _ _ => rfl) (by simp)) (by simp)
      have HKE : Hid (∀ W1, Below (((wz.alloc (.cells #[.int .u8 25, .int .u8 35] 22)).alloc (.cells #[.slice (some ⟨wz.heap.size, 0, none⟩) 2 2] 53)).drew).heap.size (((wz.alloc (.cells #[.int .u8 25, .int .u8 35] 22)).alloc (.cells #[.slice (some ⟨wz.heap.size, 0, none⟩) 2 2] 53)).drew) W1 → Below wz.heap.size wz W1 ∧ ∀ o, W1.cell? ⟨w.heap.size, o, none⟩ = wz.cell? ⟨w.heap.size, o, none⟩) := fun W1 h => by
        have h1 : Below wz.heap.size wz W1 := ((((Below.refl _ _).alloc (Nat.le_refl _) _).alloc (by simp) _).drew).trans (h.mono (by simp; omega))
        exact ⟨h1, fun o => h1.cell (p := ⟨w.heap.size, o, none⟩) hlz⟩
      go_region_held3 (fun W => W.cell? ⟨w.heap.size, 0, none⟩ = some (.int .u8 x.kind) ∧ W.cell? ⟨w.heap.size, 1, none⟩ = some (.string x.text) ∧ W.cell? ⟨w.heap.size, 2, none⟩ = some (.int .i64 x.num) ∧ W.cell? ⟨w.heap.size, 3, none⟩ = some (.int .i64 x.place) ∧ W.cell? ⟨w.heap.size, 4, none⟩ = some (.slice x.addr x.kids.length x.cap)) (first | go_keep | (refine ⟨?_, ?_, ?_, ?_, ?_⟩ <;> (rw [(HKE.out _ (by assumption)).2]; assumption))) (first | (go_at_call 24; refine (of_any _ _ _ _ _).mono ?_; rintro e w' ⟨rfl, rfl⟩) | (go_at_call 30; refine HC.out.mono ?_; rintro e w9 ⟨rfl, hb9⟩))
      all_goals
        go_wp2_with fail
        go_ret
        exact ⟨ret_bool (by rw [hE.out]; simp [placeOf]), hbl.trans ((HKE.out _ hb9).1.mono (by omega))⟩
end Go.Proofs.YtldedhfbpongmaaDoor
