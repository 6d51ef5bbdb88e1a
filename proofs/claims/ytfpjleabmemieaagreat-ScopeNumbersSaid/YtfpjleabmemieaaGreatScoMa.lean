/- The document's scope: New, Open, Deep, place, Look, Use. -/
/- The document's scope: Look, Use. -/
/- The document's scope: Declare. -/
/- The document's scope: Close. -/
import Derived.Test.YtfpjleabmemieaaGreatScoRc
import Derived.Test.YtfpjleabmemieaaGreatScoLb
import Derived.Test.YtfpjleabmemieaaGreatFlD
set_option maxRecDepth 100000
namespace Go.Proofs.YtfpjleabmemieaaGreat
open Go.Instr Go.RowKit ScoT
set_option linter.unusedVariables false
abbrev RF (w : World) (lo : Nat) (Y : Nat → Prop) (d : Nat) (v : Value) (l : List Rn) (deep : Nat) : Prop := RefAt w 56 67 lo Y d v l deep
variable {w : World} {lo d deep : Nat} {Y : Nat → Prop} {v : Value} {l : List Rn}
theorem toList_ne {a b : ByteArray} (h : a ≠ b) : (a.toList == b.toList) = false := by
  rw [ByteArray.toList_eq, ByteArray.toList_eq, ← Bool.not_eq_true, beq_iff_eq]
  intro e
  apply h
  cases a
  cases b
  simpa using e
theorem RNew_any (w : World) : Calls Tryz.prog 8 #[] w fun e w' => e = .returned (.pointer (some ⟨w.heap.size, 0, none⟩)) ∧ w' = w.alloc (.cells #[.slice none 0 0, .int .i64 0] 56) := by
  go_enter Tryz.func8, Tryz.ntmps8
  go_wp2_with fail
  go_ret
  exact ⟨rfl, by rfl⟩
theorem RDeep_any (h : RF w lo Y d v l deep) : Calls Tryz.prog 12 #[.pointer (some ⟨d, 0, none⟩)] w fun e w' => e = .returned (.int .i64 deep) ∧ w' = w := by
  obtain ⟨c0, c1, f0, f1⟩ := h.cells
  clear h
  go_enter Tryz.func12, Tryz.ntmps12
  go_wp2_with fail
  go_ret
  exact ⟨rfl, rfl⟩
theorem ROpen_any (h : RF w lo Y d v l deep) (hd : deep ≤ 1000000) : Calls Tryz.prog 23 #[.pointer (some ⟨d, 0, none⟩)] w fun e w' => e = .returned (.tuple #[]) ∧ RF w' lo Y d v l (deep + 1) ∧ w'.heap.size = w.heap.size ∧ FlT.Moves (fun b => b = d) w w' := by
  obtain ⟨c0, c1, f0, f1⟩ := h.cells
  have H := Lib.hid (And.intro (h.deeper (deep + 1)) ((FlT.Moves.refl (fun b => b = d) w).setCell (p := ⟨d, 1, none⟩) (.inl rfl) (.int .i64 ((deep + 1 : Nat) : Int))))
  clear h
  go_enter Tryz.func23, Tryz.ntmps23
  go_wp2_with fail
  go_end0
  have e : ((deep : Int) + 1) = ((deep + 1 : Nat) : Int) := by omega
  rw [e]
  exact ⟨rfl, H.out.1, by simp [World.setCell], H.out.2⟩
set_option maxHeartbeats 2000000 in
theorem Rplace_any (h : RF w lo Y d v l deep) (hl : l.length ≤ 1000000) (x : ByteArray) : Calls Tryz.prog 33 #[.pointer (some ⟨d, 0, none⟩), .string x] w fun e w' => e = .returned (.int .i64 (placeI x l)) ∧ w' = w := by
  obtain ⟨c0, c1, f0, f1⟩ := h.cells
  obtain ⟨A, c, hv, hc1, hc2, hA⟩ := h.head
  subst hv
  have HH := Lib.hid h
  clear h
  go_enter Tryz.func33, Tryz.ntmps33
  go_wp2_with fail
  go_loopg [5] l.length (fun gg i wr => ∃ n : Nat, n ≤ l.length ∧ gg = n ∧ i = .int .i64 ((n : Int) - 1) ∧ placeR x l = placeTo x l n ∧ wr = w)
  case atStart => exact ⟨l.length, Nat.le_refl _, rfl, by go_num, rfl, rfl⟩
  case round =>
    obtain ⟨n, hn, hgn, rfl, hp, rfl⟩ := hrel
    have HG := Lib.hid hgn
    have HP := Lib.hid hp
    clear hgn hp
    cases n with
    | zero =>
      have e1 : (((0 : Nat) : Int) - 1) = -1 := rfl
      rw [e1]
      go_wp2_with fail
      go_ret
      have : placeI x l = -1 := by unfold placeI; rw [HP.out]; rfl
      rw [this]
      exact ⟨rfl, rfl⟩
    | succ m =>
      have e1 : (((m + 1 : Nat) : Int) - 1) = (m : Int) := by omega
      rw [e1]
      have hm : m < l.length := by omega
      obtain ⟨r, hr⟩ : ∃ r, l[m]? = some r := ⟨_, List.getElem?_eq_getElem hm⟩
      obtain ⟨g, c2, hv2, _, _, _, hcs, _⟩ := HH.out.at_ hr
      injection hv2 with hv2 _ hv3
      subst hv2 hv3
      have q0 := hcs 0 _ rfl
      simp only [Nat.add_zero] at q0
      have t1 : decide ((0 : Int) ≤ (m : Int)) = true := decide_eq_true (by omega)
      have m0 : (0 : Int) ≤ (m : Int) := by omega
      have m1 : (m : Int) < (l.length : Int) := by omega
      have HR := Lib.hid hr
      clear hcs hr
      by_cases hx : r.name = x
      · have tb : (r.name.toList == x.toList) = true := by rw [hx]; simp
        go_wp2_with fail
        go_ret
        have : placeI x l = (m : Int) := by
          unfold placeI
          rw [HP.out]
          simp only [placeTo, HR.out, hx, if_true]
        rw [this]
        exact ⟨rfl, rfl⟩
      · have tb := toList_ne hx
        go_wp2_with fail
        go_roundg m
        case rel =>
          refine ⟨m, by omega, rfl, by go_num, ?_, rfl⟩
          rw [HP.out]
          simp only [placeTo, HR.out, hx, if_false]
        case measure => rw [HG.out]; omega
end Go.Proofs.YtfpjleabmemieaaGreat
namespace ScoT
open Go Go.RowKit
set_option linter.unusedVariables false
/-- What a name is looked up as. -/
def lookR (x : ByteArray) (l : List Rn) : Ty × Bool := match placeR x l with
  | none => (zeroTy, false)
  | some p => match l[p]? with
    | some r => (r.ty, true)
    | none => (zeroTy, false)
def useR (x : ByteArray) (l : List Rn) : List Rn := match placeR x l with
  | none => l
  | some p => l.modify p fun r => { r with used := true }
theorem modify_at (l : List Rn) (p i : Nat) : (l.modify p fun r => { r with used := true })[i]? = (l[i]?).map fun r => { r with used := r.used || decide (p = i) } := by
  rw [List.getElem?_modify]
  cases l[i]? with
  | none => simp
  | some r =>
    by_cases e : p = i
    · simp [e]
    · simp [e]
theorem placeTo_modify (x : ByteArray) (l : List Rn) (p n : Nat) : placeTo x (l.modify p fun r => { r with used := true }) n = placeTo x l n := by
  induction n with
  | zero => rfl
  | succ n ih =>
    simp only [placeTo, modify_at, ih]
    cases l[n]? with
    | none => rfl
    | some r => rfl
theorem placeR_modify (x : ByteArray) (l : List Rn) (p : Nat) : placeR x (l.modify p fun r => { r with used := true }) = placeR x l := by
  unfold placeR
  rw [List.length_modify, placeTo_modify]
theorem lookR_use (x : ByteArray) (l : List Rn) : lookR x (useR x l) = lookR x l := by
  unfold useR
  cases hp : placeR x l with
  | none => rfl
  | some p =>
    unfold lookR
    simp only [placeR_modify, hp, modify_at]
    cases l[p]? with
    | none => rfl
    | some r => rfl
theorem useR_length (x : ByteArray) (l : List Rn) : (useR x l).length = l.length := by
  unfold useR
  cases placeR x l with
  | none => rfl
  | some p => simp
theorem placeR_lt {x : ByteArray} {l : List Rn} {p : Nat} (h : placeR x l = some p) : p < l.length := (placeTo_some h).1
end ScoT
namespace Go.Proofs.YtfpjleabmemieaaGreat
open Go.Instr Go.RowKit ScoT
set_option linter.unusedVariables false
set_option linter.unusedSimpArgs false
variable {w : World} {lo d deep : Nat} {Y : Nat → Prop} {v : Value} {l : List Rn}
set_option maxHeartbeats 2000000 in
theorem RLook_any (h : RF w lo Y d v l deep) (hl : l.length ≤ 1000000) (x : ByteArray) : Calls Tryz.prog 14 #[.pointer (some ⟨d, 0, none⟩), .string x] w fun e w' => e = .returned (.tuple #[(lookR x l).1.val, .bool (lookR x l).2]) ∧ Below w.heap.size w w' := by
  have hb1 : Below w.heap.size w (w.alloc (.cells #[.int .u8 0, .string ⟨#[]⟩, .slice none 0 0] 26)) := (Below.refl _ _).alloc (Nat.le_refl _) _
  have h1 := h.under hb1
  have HP := Lib.hid (Rplace_any h1 hl x)
  have HX := Lib.hid h1
  have HB := Lib.hid hb1
  obtain ⟨⟨r0, r1, r2⟩, rf⟩ := cs3_of (World.alloc_heap_new w (.cells #[.int .u8 0, .string ⟨#[]⟩, .slice none 0 0] 26))
  obtain ⟨c0, c1, f0, f1⟩ := h1.cells
  clear h h1 hb1
  cases hp : placeR x l with
  | none =>
    have e1 : placeI x l = -1 := by unfold placeI; rw [hp]
    have e2 : lookR x l = (zeroTy, false) := by unfold lookR; rw [hp]
    rw [e1] at HP
    rw [e2]
    go_enter Tryz.func14, Tryz.ntmps14
    go_wp2_with (go_at_call 33; refine HP.out.mono ?_; rintro e w' ⟨rfl, rfl⟩)
    refine bodyPost_ret (v := .tuple #[.agg #[.int .u8 0, .string ⟨#[]⟩, .slice none 0 0], .bool false]) (by simp [results, Tryz.results14, go_sem, r0, r1, r2]) rfl ⟨rfl, ?_⟩
    exact (Below.refl _ _).alloc (Nat.le_refl _) _
  | some p =>
    have hpl := placeR_lt hp
    have e1 : placeI x l = (p : Int) := by unfold placeI; rw [hp]
    obtain ⟨r, hr⟩ : ∃ r, l[p]? = some r := ⟨_, List.getElem?_eq_getElem hpl⟩
    have e2 : lookR x l = (r.ty, true) := by unfold lookR; rw [hp]; simp only [hr]
    rw [e1] at HP
    rw [e2]
    obtain ⟨g, c2, hv2, _, _, _, hcs, _⟩ := HX.out.at_ hr
    subst hv2
    have q1 := hcs 1 _ rfl
    have q2 := hcs 2 _ rfl
    have q3 := hcs 3 _ rfl
    have t0 : decide ((p : Int) < 0) = false := decide_eq_false (by omega)
    have m0 : (0 : Int) ≤ (p : Int) := by omega
    have m1 : (p : Int) < (l.length : Int) := by omega
    clear hcs e1 e2 hp hr
    unfold Ty.row at q3
    unfold Ty.val Ty.row
    go_enter Tryz.func14, Tryz.ntmps14
    go_wp2_with (go_at_call 33; refine HP.out.mono ?_; rintro e w' ⟨rfl, rfl⟩)
    refine bodyPost_ret (v := .tuple #[.agg #[.int .u8 r.ty.kind, .string r.ty.name, .slice r.ty.addr r.ty.els.length r.ty.cap], .bool true]) (by simp [results, Tryz.results14, go_sem, r0, r1, r2]) rfl ⟨rfl, ?_⟩
    exact (Below.refl _ _).alloc (Nat.le_refl _) _
def RUsePost (w : World) (lo : Nat) (Y : Nat → Prop) (d : Nat) (v : Value) (l : List Rn) (deep : Nat) (x : ByteArray) (e : Ending) (w' : World) : Prop := e = .returned (.tuple #[(lookR x l).1.val, .bool (lookR x l).2]) ∧ RF w' lo Y d v (useR x l) deep ∧ FlT.Moves (RefOf d v Y) w w'
set_option maxHeartbeats 2000000 in
theorem RUse_any (h : RF w lo Y d v l deep) (hl : l.length ≤ 1000000) (x : ByteArray) : Calls Tryz.prog 28 #[.pointer (some ⟨d, 0, none⟩), .string x] w (RUsePost w lo Y d v l deep x) := by
  have hb1 : Below w.heap.size w (w.alloc (.cells #[.int .u8 0, .string ⟨#[]⟩, .slice none 0 0] 26)) := (Below.refl _ _).alloc (Nat.le_refl _) _
  have h1 := h.under hb1
  have HP := Lib.hid (Rplace_any h1 hl x)
  have HX := Lib.hid (And.intro h1 h.old)
  have HB := Lib.hid hb1
  obtain ⟨c0, c1, f0, f1⟩ := h1.cells
  clear h1 hb1
  cases hp : placeR x l with
  | none =>
    have e1 : placeI x l = -1 := by unfold placeI; rw [hp]
    have e2 : useR x l = l := by unfold useR; rw [hp]
    have HE := Lib.hid (And.intro e1 e2)
    rw [e1] at HP
    have HL := Lib.hid (RLook_any HX.out.1 hl x)
    clear h e1 e2
    obtain ⟨t, ht⟩ : ∃ t, (lookR x l).1 = t := ⟨_, rfl⟩
    obtain ⟨b, hb⟩ : ∃ b, (lookR x l).2 = b := ⟨_, rfl⟩
    unfold RUsePost
    rw [ht, hb] at HL ⊢
    clear ht hb
    unfold Ty.val Ty.row at HL ⊢
    go_enter Tryz.func28, Tryz.ntmps28
    go_wp2_with (first
      | (go_at_call 33; refine HP.out.mono ?_; rintro e w' ⟨rfl, rfl⟩)
      | (go_at_call 14; refine HL.out.mono ?_; rintro e w' ⟨rfl, hb⟩
         obtain ⟨⟨r0, r1, r2⟩, rf⟩ := cs3_of ((hb.block w.heap.size (by simp)).trans (World.alloc_heap_new w (.cells #[.int .u8 0, .string ⟨#[]⟩, .slice none 0 0] 26)))
         have HB2 := Lib.hid hb; clear hb))
    refine bodyPost_ret (v := .tuple #[.agg #[.int .u8 t.kind, .string t.name, .slice t.addr t.els.length t.cap], .bool b]) (by simp [results, Tryz.results28, go_sem, r0, r1, r2]) rfl ⟨rfl, ?_⟩
    have hbb : Below w.heap.size w (((w'.setCell ⟨w.heap.size, 0, none⟩ (.int .u8 t.kind)).setCell ⟨w.heap.size, 1, none⟩ (.string t.name)).setCell ⟨w.heap.size, 2, none⟩ (.slice t.addr t.els.length t.cap)) := ((((HB.out.trans (HB2.out.mono (by simp))).setCell (p := ⟨w.heap.size, 0, none⟩) (Nat.le_refl _) _).setCell (p := ⟨w.heap.size, 1, none⟩) (Nat.le_refl _) _).setCell (p := ⟨w.heap.size, 2, none⟩) (Nat.le_refl _) _)
    rw [HE.out.2]
    refine ⟨HX.out.1.keep (by have := HB2.out.size; simpa [World.setCell] using this) fun b hb => ?_, FlT.Moves.of_below hbb⟩
    have hbw := (HX.out.2 b hb).2
    rw [hbb.block b hbw, HB.out.block b hbw]
  | some p =>
    have hpl := placeR_lt hp
    have e1 : placeI x l = (p : Int) := by unfold placeI; rw [hp]
    have e2 : useR x l = l.modify p fun r => { r with used := true } := by unfold useR; rw [hp]
    obtain ⟨r, hr⟩ : ∃ r, l[p]? = some r := ⟨_, List.getElem?_eq_getElem hpl⟩
    rw [e1] at HP
    obtain ⟨g, c2, hv2, _, _, hdg, hcs, hfr⟩ := HX.out.1.at_ hr
    subst hv2
    have q5 := hcs 5 _ rfl
    have qf := hfr (p * 6 + 5)
    obtain ⟨hu1, hu2⟩ := HX.out.1.use hpl rfl
    have HU := Lib.hid (And.intro hu1 (And.intro hu2 (And.intro e2 hdg)))
    have HL := Lib.hid (RLook_any hu1 (by rw [List.length_modify]; exact hl) x)
    have e3 : lookR x (l.modify p fun r => { r with used := true }) = lookR x l := by rw [← e2]; exact lookR_use x l
    rw [e3] at HL
    have hg1 : g < w.heap.size := (HX.out.2 g (.inr (.inl rfl))).2
    have t0 : decide ((0 : Int) ≤ (p : Int)) = true := decide_eq_true (by omega)
    have m0 : (0 : Int) ≤ (p : Int) := by omega
    have m1 : (p : Int) < (l.length : Int) := by omega
    have HG := Lib.hid hg1
    clear hcs e1 e2 e3 hp hr hfr hu1 hu2 h hdg hg1
    obtain ⟨t, ht⟩ : ∃ t, (lookR x l).1 = t := ⟨_, rfl⟩
    obtain ⟨b, hb⟩ : ∃ b, (lookR x l).2 = b := ⟨_, rfl⟩
    unfold RUsePost
    rw [ht, hb] at HL ⊢
    clear ht hb
    unfold Ty.val Ty.row at HL ⊢
    obtain ⟨X, hX⟩ : ∃ X, X = w.alloc (.cells #[.int .u8 0, .string ⟨#[]⟩, .slice none 0 0] 26) := ⟨_, rfl⟩
    have hX0 : X.heap[w.heap.size]? = some (.cells #[.int .u8 0, .string ⟨#[]⟩, .slice none 0 0] 26) := by rw [hX]; exact World.alloc_heap_new _ _
    have hXs : X.heap.size = w.heap.size + 1 := by rw [hX]; simp
    rw [← hX] at HP HX HB HU HL c0 c1 f0 f1 q5 qf
    have HXX := Lib.hid (And.intro hX (And.intro hX0 hXs))
    clear hX hX0 hXs
    go_enter Tryz.func28, Tryz.ntmps28
    go_wp2_with (first
      | (go_at_call 33; rw [← HXX.out.1]; refine HP.out.mono ?_; rintro e X ⟨rfl, rfl⟩)
      | (go_at_call 14; refine HL.out.mono ?_; rintro e w' ⟨rfl, hb⟩
         obtain ⟨⟨r0, r1, r2⟩, rf⟩ := cs3_of ((hb.block w.heap.size (by simp [World.setCell]; rw [HXX.out.2.2]; omega)).trans ((HU.out.2.1 w.heap.size (by have := HG.out; omega)).trans HXX.out.2.1))
         have HB2 := Lib.hid hb; clear hb))
    refine bodyPost_ret (v := .tuple #[.agg #[.int .u8 t.kind, .string t.name, .slice t.addr t.els.length t.cap], .bool b]) (by simp [results, Tryz.results28, go_sem, r0, r1, r2]) rfl ⟨rfl, ?_⟩
    have hsz : X.heap.size ≤ w'.heap.size := by have := HB2.out.size; simpa [World.setCell] using this
    have hsb := HXX.out.2.2
    have sh : ∀ b, b ≠ w.heap.size → (((w'.setCell ⟨w.heap.size, 0, none⟩ (.int .u8 t.kind)).setCell ⟨w.heap.size, 1, none⟩ (.string t.name)).setCell ⟨w.heap.size, 2, none⟩ (.slice t.addr t.els.length t.cap)).heap[b]? = w'.heap[b]? := fun b hb => by
      rw [set_heap _ _ _ _ _ hb, set_heap _ _ _ _ _ hb, set_heap _ _ _ _ _ hb]
    have sz : (((w'.setCell ⟨w.heap.size, 0, none⟩ (.int .u8 t.kind)).setCell ⟨w.heap.size, 1, none⟩ (.string t.name)).setCell ⟨w.heap.size, 2, none⟩ (.slice t.addr t.els.length t.cap)).heap.size = w'.heap.size := by simp only [set_size]
    rw [HU.out.2.2.1]
    have hbk : ∀ b, b < w.heap.size → (((w'.setCell ⟨w.heap.size, 0, none⟩ (.int .u8 t.kind)).setCell ⟨w.heap.size, 1, none⟩ (.string t.name)).setCell ⟨w.heap.size, 2, none⟩ (.slice t.addr t.els.length t.cap)).heap[b]? = (X.setCell ⟨g, p * 6 + 5, none⟩ (.bool true)).heap[b]? := fun b hb => by
      rw [sh b (by omega)]
      exact HB2.out.block b (by simp [World.setCell]; omega)
    refine ⟨HU.out.1.keep (by rw [sz]; simpa [World.setCell] using hsz) fun b hb => hbk b (HX.out.2 b hb).2, ⟨?_, ?_, ?_, ?_, fun b hb hn => ?_⟩⟩
    · exact HB2.out.os.trans HB.out.os
    · exact HB2.out.tape.trans HB.out.tape
    · exact HB2.out.output.trans HB.out.output
    · rw [sz]; omega
    · rw [hbk b hb, HU.out.2.1 b (by rintro rfl; exact hn (.inr (.inl rfl)))]
      exact HB.out.block b hb
end Go.Proofs.YtfpjleabmemieaaGreat
namespace Go.Proofs.YtfpjleabmemieaaGreat
open Go.Instr Go.RowKit ScoT
set_option linter.unusedVariables false
variable {w : World} {lo d deep : Nat} {Y : Nat → Prop} {v : Value} {l : List Rn}
theorem Tryz.infoRname : (Tryz.prog.info? 67).map (fun i => (i.zero, i.size, i.bytes)) = some (some (.agg #[.string ⟨#[]⟩, .int .u8 0, .string ⟨#[]⟩, .slice none 0 0, .int .i64 0, .bool false]), 6, 80) := by kernel_rfl
/-- A scope that has no block. -/
theorem RDeclare_none (h : RF w lo Y d v l 0) (x : ByteArray) (t : Ty) : Calls Tryz.prog 25 #[.pointer (some ⟨d, 0, none⟩), .string x, t.val] w fun e w' => e = .returned (.int .i64 6) ∧ Below w.heap.size w w' := by
  have hb1 : Below w.heap.size w (w.alloc (.cells #[.int .u8 t.kind, .string t.name, .slice t.addr t.els.length t.cap] 26)) := (Below.refl _ _).alloc (Nat.le_refl _) _
  obtain ⟨c0, c1, f0, f1⟩ := (h.under hb1).cells
  clear h
  unfold Ty.val Ty.row
  go_enter Tryz.func25, Tryz.ntmps25
  go_wp2_with fail
  go_ret
  exact ⟨rfl, hb1⟩
theorem RDeclare_twice (h : RF w lo Y d v l deep) (hl : l.length ≤ 1000000) (hd : 0 < deep) (x : ByteArray) (t : Ty) {p : Nat} {r : Rn} (hp : placeR x l = some p) (hr : l[p]? = some r) (hrd : r.deep = deep) : Calls Tryz.prog 25 #[.pointer (some ⟨d, 0, none⟩), .string x, t.val] w fun e w' => e = .returned (.int .i64 110) ∧ Below w.heap.size w w' := by
  have hb1 : Below w.heap.size w (w.alloc (.cells #[.int .u8 t.kind, .string t.name, .slice t.addr t.els.length t.cap] 26)) := (Below.refl _ _).alloc (Nat.le_refl _) _
  have h1 := h.under hb1
  obtain ⟨c0, c1, f0, f1⟩ := h1.cells
  have e1 : placeI x l = (p : Int) := by unfold placeI; rw [hp]
  have HP := Lib.hid (Rplace_any h1 hl x)
  rw [e1] at HP
  have hpl := placeR_lt hp
  obtain ⟨g, c2, hv2, _, _, hdg, hcs, hfr⟩ := h1.at_ hr
  subst hv2
  have q4 := hcs 4 _ rfl
  rw [hrd] at q4
  have t0 : decide ((0 : Int) ≤ (p : Int)) = true := decide_eq_true (by omega)
  have m0 : (0 : Int) ≤ (p : Int) := by omega
  have m1 : (p : Int) < (l.length : Int) := by omega
  have td : ((deep : Int) == 0) = false := by rw [← Bool.not_eq_true]; simp; omega
  have HB := Lib.hid hb1
  clear h h1 hcs hfr hp hr hrd e1 hb1 hdg
  obtain ⟨X, hX⟩ : ∃ X, X = w.alloc (.cells #[.int .u8 t.kind, .string t.name, .slice t.addr t.els.length t.cap] 26) := ⟨_, rfl⟩
  rw [← hX] at HP HB c0 c1 f0 f1 q4
  have HX := Lib.hid hX
  have c1a := c1
  rw [hX] at c1a
  clear hX
  unfold Ty.val Ty.row
  go_enter Tryz.func25, Tryz.ntmps25
  go_wp2_with (go_at_call 33; rw [← HX.out]; refine HP.out.mono ?_; rintro e X ⟨rfl, rfl⟩)
  go_region
  go_wp2_with fail
  go_ret
  exact ⟨rfl, HB.out.drew⟩
def RDeclPost (w : World) (lo : Nat) (Y : Nat → Prop) (d : Nat) (v : Value) (l : List Rn) (deep : Nat) (x : ByteArray) (t : Ty) (e : Ending) (w' : World) : Prop :=
  e = .returned (.int .i64 0) ∧ ∃ (Y' : Nat → Prop) (v' : Value) (t' : Ty), RF w' lo Y' d v' (l ++ [⟨x, t', deep, false⟩]) deep ∧ same t t' = true ∧ FlT.Moves (RefOf d v Y) w w' ∧ ∀ b, RefOf d v' Y' b → RefOf d v Y b ∨ w.heap.size ≤ b
theorem hkeep3 {X w2 w3 : World} {v' : Value} {news : List Value} (h : RF X lo Y d v l deep) (o : Obj) (hd : d < w2.heap.size) (c0 : w2.cell? ⟨d, 0, none⟩ = some v) (f0 : w2.frozen? ⟨d, 0, none⟩ = false) (hG : FlT.Grown 67 (d + 1) 6 v l.length (rcells l) 1 news v' (w2.alloc o) w3) : w3.cell? ⟨d, 0, none⟩ = some v ∧ w3.frozen? ⟨d, 0, none⟩ = false := by
  have e1 : (w2.alloc o).heap[d]? = w2.heap[d]? := Below.heap_alloc _ _ _ hd
  have e2 : w3.heap[d]? = (w2.alloc o).heap[d]? := by
    rcases hG.2 with ⟨b, c, q1, q2, q3⟩ | ⟨q1, q2⟩
    · refine q3.block d (by simp; omega) fun e => ?_
      injection e with e
      have := (h.own.lt b (by rw [q1]; rfl)).1
      omega
    · exact q1.block d (by simp; omega) (by simp)
  exact ⟨(World.cell?_of_block (a := ⟨d, 0, none⟩) (e2.trans e1)).trans c0, (World.frozen?_of_block (a := ⟨d, 0, none⟩) (e2.trans e1)).trans f0⟩
theorem grown_by {T : TypeId} {base s n m : Nat} {v v' : Value} {xs news : List Value} {a b : World} (h : FlT.Grown T base s v n xs m news v' a b) : a.grownBy b v.ownBlock ∧ (∀ k, v'.ownBlock = some k → v.ownBlock = some k ∨ a.heap.size ≤ k) := by
  rcases h.2 with ⟨b', c, q1, q2, q3⟩ | ⟨q1, q2⟩
  · subst q1 q2
    exact ⟨q3, fun k hk => .inl hk⟩
  · exact ⟨⟨q1.os, q1.tape, q1.output, q1.size, fun i hi _ => q1.block i hi (by simp)⟩, fun k hk => .inr (q2 k hk)⟩
theorem decl_end {X w2 w3 : World} {v' : Value} {x : ByteArray} {t t' : Ty} {o : Obj} (hX : X.heap.size = w.heap.size + 1) (hwX : Below w.heap.size w X) (hold : ∀ b, RefOf d v Y b → lo ≤ b ∧ b < w.heap.size) (h : RF X lo Y d v l deep) (hs : same t t' = true) (hin : In w2 (fun b => X.heap.size ≤ b ∧ b < w2.heap.size) t') (hb : Below X.heap.size X.drew.drew w2) (hd2 : d < w2.heap.size) (c0 : w2.cell? ⟨d, 0, none⟩ = some v) (f0 : w2.frozen? ⟨d, 0, none⟩ = false)
    (hG : FlT.Grown 67 (d + 1) 6 v l.length (rcells l) 1 (rcs ⟨x, t', deep, false⟩) v' (w2.alloc o) w3) : RDeclPost w lo Y d v l deep x t (.returned (.int .i64 0)) (w3.setCell ⟨d, 0, none⟩ v') := by
  obtain ⟨g1, g2⟩ := grown_by hG
  have hb' : Below X.heap.size X w2 := ⟨hb.os, hb.tape, hb.output, hb.size, hb.block⟩
  have hal : Below w2.heap.size w2 (w2.alloc o) := (Below.refl _ _).alloc (Nat.le_refl _) _
  obtain ⟨p1, p2⟩ := h.push hb' hin hal hG.1 g1 g2 (hkeep3 h o hd2 c0 f0 hG).1
  have z1 := hb'.size
  have z2 := g1.size
  simp only [World.size_alloc] at z2
  have z3 : (w3.setCell ⟨d, 0, none⟩ v').heap.size = w3.heap.size := by simp [World.setCell]
  refine ⟨rfl, _, v', t', p1, hs, ⟨?_, ?_, ?_, by omega, fun b hlt hn => ?_⟩, fun b hbb => ?_⟩
  · exact (g1.os.trans hb'.os).trans hwX.os
  · exact (g1.tape.trans hb'.tape).trans hwX.tape
  · exact (g1.output.trans hb'.output).trans hwX.output
  · rw [p2 b (by omega) hn]
    exact hwX.block b hlt
  · rcases hbb with rfl | hbb | hbb | hbb
    · exact .inl (.inl rfl)
    · rcases g2 b hbb with h1 | h1
      · exact .inl (.inr (.inl h1))
      · simp only [World.size_alloc] at h1
        exact .inr (by omega)
    · exact .inl (.inr (.inr hbb))
    · exact .inr (by omega)
set_option maxHeartbeats 4000000 in
theorem RDeclare_once (h : RF w lo Y d v l deep) (hl : l.length ≤ 1000000) (hd : 0 < deep) (x : ByteArray) (t : Ty) (hp : ∀ p r, placeR x l = some p → l[p]? = some r → r.deep ≠ deep) (S : Nat → Prop) (hin : In w S t) (hS : ∀ b, S b → b < w.heap.size) (hw : weight t ≤ 100000) : Calls Tryz.prog 25 #[.pointer (some ⟨d, 0, none⟩), .string x, t.val] w (RDeclPost w lo Y d v l deep x t) := by
  obtain ⟨i0, hi, hz0, hz1, hz2⟩ := info_parts Tryz.infoRname
  have HI := Lib.hid (And.intro hi (And.intro hz0 (And.intro hz1 hz2)))
  have hb1 : Below w.heap.size w (w.alloc (.cells #[.int .u8 t.kind, .string t.name, .slice t.addr t.els.length t.cap] 26)) := (Below.refl _ _).alloc (Nat.le_refl _) _
  have h1 := h.under hb1
  have HP := Lib.hid (Rplace_any h1 hl x)
  have td : ((deep : Int) == 0) = false := by rw [← Bool.not_eq_true]; simp; omega
  obtain ⟨X, hX⟩ : ∃ X, X = w.alloc (.cells #[.int .u8 t.kind, .string t.name, .slice t.addr t.els.length t.cap] 26) := ⟨_, rfl⟩
  obtain ⟨⟨r0, r1, r2⟩, rf⟩ := cs3_of (show X.heap[w.heap.size]? = _ by rw [hX]; exact World.alloc_heap_new _ _)
  have hXs : X.heap.size = w.heap.size + 1 := by rw [hX]; simp
  rw [← hX] at HP hb1 h1
  have HX := Lib.hid hX
  obtain ⟨c0, c1, f0, f1⟩ := h1.cells
  have c1a := c1
  rw [HX.out] at c1a
  have HH := Lib.hid (And.intro h1 (And.intro hb1 (And.intro hXs (And.intro h.old (And.intro h.lt h)))))
  have HC := Lib.hid (CopyType_any t X.drew.drew S (hin.keep (fun _ h => h) (fun p hp => by show X.cell? p = _; exact hb1.cell (hS _ hp))) (fun b hb => by have := hS b hb; show b < X.heap.size; omega) hw)
  have HKEEP : Hid (∀ w2, Below X.heap.size X.drew.drew w2 → (w2.cell? ⟨d, 0, none⟩ = some v ∧ w2.cell? ⟨d, 1, none⟩ = some (.int .i64 (deep : Int))) ∧ w2.frozen? ⟨d, 0, none⟩ = false) := Lib.hid fun w2 hb => by
    have hd2 : d < X.heap.size := h1.lt
    have e := hb.block d hd2
    exact ⟨⟨(World.cell?_of_block (a := ⟨d, 0, none⟩) e).trans c0, (World.cell?_of_block (a := ⟨d, 1, none⟩) e).trans c1⟩, (World.frozen?_of_block (a := ⟨d, 0, none⟩) e).trans f0⟩
  have HPP := Lib.hid hp
  clear hi hz0 hz1 hz2 h h1 hX hp hin hS hw hb1
  cases hp : placeR x l with
  | none =>
    have e1 : placeI x l = -1 := by unfold placeI; rw [hp]
    rw [e1] at HP
    clear e1 hp HPP
    obtain ⟨A0, cc, hv, _, _, _⟩ := HH.out.1.head
    subst hv
    unfold Ty.val Ty.row
    go_enter Tryz.func25, Tryz.ntmps25
    go_wp2_with (go_at_call 33; rw [← HX.out]; refine HP.out.mono ?_; rintro e X ⟨rfl, rfl⟩)
    go_region
    go_upto_region 6 with fail
    go_region_law (first
      | (go_simp; go_at_call 43; refine HC.out.mono ?_; rintro e w2 ⟨t', rfl, hr2, hin2, hb2⟩
         obtain ⟨⟨k0, k1⟩, kf⟩ := HKEEP.out w2 hb2
         have hown2 : w2.ownsRow (d + 1) 67 6 (.slice A0 l.length cc) l.length (rcells l) := row_keep HH.out.1.own fun b hb => hb2.block b (HH.out.1.own.lt b hb).2
         have HT := Lib.hid (And.intro hr2 (And.intro hin2 (And.intro hb2 hown2))); clear hr2 hin2 hb2 hown2
         have hz2 : X.heap.size ≤ w2.heap.size := HT.out.2.2.1.size
         have hd2 : d < w2.heap.size := by have := HH.out.1.lt; omega
         unfold Ty.val Ty.row)
      | (refine step_append_two rfl (.tmp 37) (.tmp 46) 54 rfl (d + 1) 67 i0 _ 6 80 Tryz.underlying54 HI.out.1 HI.out.2.1 HI.out.2.2.1 HI.out.2.2.2 rfl (by decide) _ l.length _ rfl (HT.out.2.2.2.alloc (.cells #[.string x, .int .u8 t'.kind, .string t'.name, .slice t'.addr t'.els.length t'.cap, .int .i64 (deep : Int), .bool false] 67)) ⟨w2.heap.size, 0, none⟩ 1 1 (by decide) rfl [.string x, .int .u8 t'.kind, .string t'.name, .slice t'.addr t'.els.length t'.cap, .int .i64 (deep : Int), .bool false] rfl (FlT.cells_new w2 [.string x, .int .u8 t'.kind, .string t'.name, .slice t'.addr t'.els.length t'.cap, .int .i64 (deep : Int), .bool false] 67) (by intro u hu; simp only [List.mem_cons, List.not_mem_nil, or_false] at hu; rcases hu with rfl | rfl | rfl | rfl | rfl | rfl <;> rfl) (by unfold maxLen; omega) (by omega) (by simp; omega) ?_; intro v' w3 hG
         obtain ⟨r3, c3, hv3, _, _, _, _⟩ := FlT.own_head hG.1 (by omega)
         unfold FlT.row at hv3
         subst hv3
         have hq0 := hkeep3 HH.out.1 _ hd2 k0 kf hG
         obtain ⟨q30, q3f⟩ := hq0
         have HG := Lib.hid hG
         clear hG))
    all_goals
      have HE : Hid (RDeclPost w lo Y d (.slice A0 l.length cc) l deep x t (.returned (.int .i64 0)) (w3.setCell ⟨d, 0, none⟩ (.slice (some ⟨r3, 0, none⟩) (l.length + 1) c3))) := Lib.hid (decl_end HH.out.2.2.1 HH.out.2.1 HH.out.2.2.2.1 HH.out.1 HT.out.1 HT.out.2.1 HT.out.2.2.1 hd2 k0 kf HG.out)
      clear HT HG
      go_wp2_with fail
      go_ret
      exact HE.out
  
  | some p =>
    have hpl := placeR_lt hp
    have e1 : placeI x l = (p : Int) := by unfold placeI; rw [hp]
    obtain ⟨r, hr⟩ : ∃ r, l[p]? = some r := ⟨_, List.getElem?_eq_getElem hpl⟩
    have hne := HPP.out p r hp hr
    obtain ⟨g, cc, hv2, _, _, hdg, hcs, hfr⟩ := HH.out.1.at_ hr
    rw [e1] at HP
    subst hv2
    have q4 := hcs 4 _ rfl
    have t0 : decide ((0 : Int) ≤ (p : Int)) = true := decide_eq_true (by omega)
    have m0 : (0 : Int) ≤ (p : Int) := by omega
    have m1 : (p : Int) < (l.length : Int) := by omega
    have te : ((r.deep : Int) == (deep : Int)) = false := by rw [← Bool.not_eq_true]; simp; omega
    clear e1 hp HPP hcs hfr hr hdg hne
    unfold Ty.val Ty.row
    go_enter Tryz.func25, Tryz.ntmps25
    go_wp2_with (go_at_call 33; rw [← HX.out]; refine HP.out.mono ?_; rintro e X ⟨rfl, rfl⟩)
    go_region
    go_upto_region 6 with fail
    clear q4
    go_region_law (first
      | (go_simp; go_at_call 43; refine HC.out.mono ?_; rintro e w2 ⟨t', rfl, hr2, hin2, hb2⟩
         obtain ⟨⟨k0, k1⟩, kf⟩ := HKEEP.out w2 hb2
         have hown2 : w2.ownsRow (d + 1) 67 6 (.slice (some ⟨g, 0, none⟩) l.length cc) l.length (rcells l) := row_keep HH.out.1.own fun b hb => hb2.block b (HH.out.1.own.lt b hb).2
         have HT := Lib.hid (And.intro hr2 (And.intro hin2 (And.intro hb2 hown2))); clear hr2 hin2 hb2 hown2
         have hz2 : X.heap.size ≤ w2.heap.size := HT.out.2.2.1.size
         have hd2 : d < w2.heap.size := by have := HH.out.1.lt; omega
         unfold Ty.val Ty.row)
      | (refine step_append_two rfl (.tmp 37) (.tmp 46) 54 rfl (d + 1) 67 i0 _ 6 80 Tryz.underlying54 HI.out.1 HI.out.2.1 HI.out.2.2.1 HI.out.2.2.2 rfl (by decide) _ l.length _ rfl (HT.out.2.2.2.alloc (.cells #[.string x, .int .u8 t'.kind, .string t'.name, .slice t'.addr t'.els.length t'.cap, .int .i64 (deep : Int), .bool false] 67)) ⟨w2.heap.size, 0, none⟩ 1 1 (by decide) rfl [.string x, .int .u8 t'.kind, .string t'.name, .slice t'.addr t'.els.length t'.cap, .int .i64 (deep : Int), .bool false] rfl (FlT.cells_new w2 [.string x, .int .u8 t'.kind, .string t'.name, .slice t'.addr t'.els.length t'.cap, .int .i64 (deep : Int), .bool false] 67) (by intro u hu; simp only [List.mem_cons, List.not_mem_nil, or_false] at hu; rcases hu with rfl | rfl | rfl | rfl | rfl | rfl <;> rfl) (by unfold maxLen; omega) (by omega) (by simp; omega) ?_; intro v' w3 hG
         obtain ⟨r3, c3, hv3, _, _, _, _⟩ := FlT.own_head hG.1 (by omega)
         unfold FlT.row at hv3
         subst hv3
         have hq0 := hkeep3 HH.out.1 _ hd2 k0 kf hG
         obtain ⟨q30, q3f⟩ := hq0
         have HG := Lib.hid hG
         clear hG))
    all_goals
      have HE : Hid (RDeclPost w lo Y d (.slice (some ⟨g, 0, none⟩) l.length cc) l deep x t (.returned (.int .i64 0)) (w3.setCell ⟨d, 0, none⟩ (.slice (some ⟨r3, 0, none⟩) (l.length + 1) c3))) := Lib.hid (decl_end HH.out.2.2.1 HH.out.2.1 HH.out.2.2.2.1 HH.out.1 HT.out.1 HT.out.2.1 HT.out.2.2.1 hd2 k0 kf HG.out)
      clear HT HG
      go_wp2_with fail
      go_ret
      exact HE.out
  
end Go.Proofs.YtfpjleabmemieaaGreat
namespace ScoT
open Go Go.RowKit
set_option linter.unusedVariables false
def lefts (n : Nat) (l : List Rn) : List Rn := l.filter fun r => decide (r.deep < n)
def outs (n : Nat) (l : List Rn) : List ByteArray := (l.filter fun r => !decide (r.deep < n) && !r.used).map Rn.name
theorem lefts_take {n k : Nat} {l : List Rn} {r : Rn} (h : l[k]? = some r) : lefts n (l.take (k + 1)) = lefts n (l.take k) ++ (if r.deep < n then [r] else []) := by
  unfold lefts
  rw [List.take_add_one, h, Option.toList_some, List.filter_append]
  by_cases e : r.deep < n <;> simp [e]
theorem outs_take {n k : Nat} {l : List Rn} {r : Rn} (h : l[k]? = some r) : outs n (l.take (k + 1)) = outs n (l.take k) ++ (if r.deep < n then [] else if r.used then [] else [r.name]) := by
  unfold outs
  rw [List.take_add_one, h, Option.toList_some, List.filter_append, List.map_append]
  by_cases e : r.deep < n
  · simp [e]
  · cases hu : r.used <;> simp [e, hu]
theorem lefts_len (n : Nat) (l : List Rn) (k : Nat) : (lefts n (l.take k)).length ≤ l.length := by
  unfold lefts
  have h1 := List.length_filter_le (fun r : Rn => decide (r.deep < n)) (l.take k)
  have h2 : (l.take k).length ≤ l.length := by simp; omega
  omega
theorem outs_len (n : Nat) (l : List Rn) (k : Nat) : (outs n (l.take k)).length ≤ l.length := by
  unfold outs
  rw [List.length_map]
  have h1 := List.length_filter_le (fun r : Rn => !decide (r.deep < n) && !r.used) (l.take k)
  have h2 : (l.take k).length ≤ l.length := by simp; omega
  omega
end ScoT
namespace Go.Proofs.YtfpjleabmemieaaGreat
open Go.Instr Go.RowKit ScoT
set_option linter.unusedVariables false
variable {w : World} {lo d deep : Nat} {Y : Nat → Prop} {v : Value} {l : List Rn}
/-- After k rounds. -/
structure CL (w : World) (l : List Rn) (deep k : Nat) (vL vO : Value) (W : World) : Prop where
  ol : W.ownsRow w.heap.size 67 6 vL (lefts deep (l.take k)).length (rcells (lefts deep (l.take k)))
  oo : W.ownsRow w.heap.size 9 1 vO (outs deep (l.take k)).length (strs (outs deep (l.take k)))
  ne : ∀ b, vL.ownBlock = some b → vO.ownBlock ≠ some b
  bel : Below w.heap.size w W
theorem CL.next {k : Nat} {vL vO : Value} {W W' : World} {r : Rn} (h : CL w l deep k vL vO W) (hr : l[k]? = some r) (hd : ¬ r.deep < deep) (hu : r.used = true) (he : ∀ b, w.heap.size ≤ b → b < W.heap.size → W'.heap[b]? = W.heap[b]?) (hb : Below w.heap.size w W') : CL w l deep (k + 1) vL vO W' := by
  refine ⟨?_, ?_, h.ne, hb⟩
  · rw [lefts_take hr, if_neg hd, List.append_nil]
    exact row_keep h.ol fun b hb => he b (h.ol.lt b hb).1 (h.ol.lt b hb).2
  · rw [outs_take hr, if_neg hd, if_pos hu, List.append_nil]
    exact row_keep h.oo fun b hb => he b (h.oo.lt b hb).1 (h.oo.lt b hb).2
theorem CL.left {k : Nat} {vL vO vL' : Value} {W X W' : World} {r : Rn} (h : CL w l deep k vL vO W) (hX : Below W.heap.size W X) (hr : l[k]? = some r) (hd : r.deep < deep)
    (ho : W'.ownsRow w.heap.size 67 6 vL' ((lefts deep (l.take k)).length + 1) (rcells (lefts deep (l.take k)) ++ rcs r)) (hg : X.grownBy W' vL.ownBlock) (hf : ∀ k, vL'.ownBlock = some k → vL.ownBlock = some k ∨ X.heap.size ≤ k) : CL w l deep (k + 1) vL' vO W' := by
  have s1 := h.bel.size
  have s2 := hX.size
  have s3 := hg.size
  refine ⟨?_, ?_, fun b hb hc => ?_, (h.bel.trans (hX.mono s1)).grown hg (by omega) fun b hb => (h.ol.lt b hb).1⟩
  · rw [lefts_take hr, if_pos hd, List.length_append, List.length_singleton, rcells_append, rcells_one]
    exact ho
  · rw [outs_take hr, if_pos hd, List.append_nil]
    exact row_keep h.oo fun b hb => (hg.block b (by have := (h.oo.lt b hb).2; omega) (fun e => h.ne b e.symm hb)).trans (hX.block b (h.oo.lt b hb).2)
  · rcases hf b hb with h1 | h1
    · exact h.ne b h1 hc
    · have := (h.oo.lt b hc).2; omega
theorem CL.out {k : Nat} {vL vO vO' : Value} {W X W' : World} {r : Rn} (h : CL w l deep k vL vO W) (hX : Below W.heap.size W X) (hr : l[k]? = some r) (hd : ¬ r.deep < deep) (hu : r.used = false)
    (ho : W'.ownsRow w.heap.size 9 1 vO' ((outs deep (l.take k)).length + 1) (strs (outs deep (l.take k)) ++ [.string r.name])) (hg : X.grownBy W' vO.ownBlock) (hf : ∀ k, vO'.ownBlock = some k → vO.ownBlock = some k ∨ X.heap.size ≤ k) : CL w l deep (k + 1) vL vO' W' := by
  have s1 := h.bel.size
  have s2 := hX.size
  have s3 := hg.size
  refine ⟨?_, ?_, fun b hb hc => ?_, (h.bel.trans (hX.mono s1)).grown hg (by omega) fun b hb => (h.oo.lt b hb).1⟩
  · rw [lefts_take hr, if_neg hd, List.append_nil]
    exact row_keep h.ol fun b hb => (hg.block b (by have := (h.ol.lt b hb).2; omega) (fun e => h.ne b hb e.symm)).trans (hX.block b (h.ol.lt b hb).2)
  · rw [outs_take hr, if_neg hd, if_neg (by rw [hu]; decide), List.length_append, List.length_singleton]
    simpa [strs] using ho
  · rcases hf b hc with h1 | h1
    · exact h.ne b hb h1
    · have := (h.ol.lt b hb).2; omega
theorem RClose_none (h : RF w lo Y d v l 0) : Calls Tryz.prog 17 #[.pointer (some ⟨d, 0, none⟩)] w fun e w' => e = .returned (.tuple #[.slice none 0 0, .int .i64 6]) ∧ w' = w := by
  obtain ⟨c0, c1, f0, f1⟩ := h.cells
  clear h
  go_enter Tryz.func17, Tryz.ntmps17
  go_wp2_with fail
  go_ret2
  exact ⟨rfl, rfl⟩
def RClosePost (w : World) (lo : Nat) (Y : Nat → Prop) (d : Nat) (v : Value) (l : List Rn) (n : Nat) (e : Ending) (w' : World) : Prop :=
  ∃ vL vO, e = .returned (.tuple #[vO, .int .i64 0]) ∧ RF w' lo Y d vL (lefts (n + 1) l) n ∧ w'.ownsRow w.heap.size 9 1 vO (outs (n + 1) l).length (strs (outs (n + 1) l)) ∧ FlT.Moves (fun b => b = d) w w' ∧ ∀ b, vL.ownBlock = some b → w.heap.size ≤ b
theorem close_end {vL vO : Value} {W : World} {n : Nat} (hd : deep = n + 1) (h : RF w lo Y d v l deep) (hc : CL w l deep l.length vL vO W) : RClosePost w lo Y d v l n (.returned (.tuple #[vO, .int .i64 0])) ((W.setCell ⟨d, 0, none⟩ vL).setCell ⟨d, 1, none⟩ (.int .i64 (n : Int))) := by
  subst hd
  obtain ⟨ol, oo, ne, hb⟩ := hc
  rw [List.take_length] at ol oo
  obtain ⟨p1, p2⟩ := h.less (l' := lefts (n + 1) l) hb ol (fun r hr => (List.mem_filter.1 hr).1) n
  have hl := h.lt
  refine ⟨vL, vO, rfl, p1, row_keep oo fun b hb' => p2 b (by have := (oo.lt b hb').1; omega), ?_, fun b hb' => (ol.lt b hb').1⟩
  exact FlT.Moves.setCell (S := fun b => b = d) (p := ⟨d, 1, none⟩) (FlT.Moves.setCell (S := fun b => b = d) (p := ⟨d, 0, none⟩) (FlT.Moves.of_below hb) (.inl rfl) _) (.inl rfl) _
set_option maxHeartbeats 4000000 in
theorem RClose_any {n : Nat} (hd : deep = n + 1) (h : RF w lo Y d v l deep) (hl : l.length ≤ 1000000) (hdl : deep ≤ 1000000) : Calls Tryz.prog 17 #[.pointer (some ⟨d, 0, none⟩)] w (RClosePost w lo Y d v l n) := by
  obtain ⟨i0, hi, hz0, hz1, hz2⟩ := info_parts Tryz.infoRname
  obtain ⟨j0, hj, hy0, hy1, hy2⟩ := info_parts Tryz.infoStr
  have HI := Lib.hid (And.intro hi (And.intro hz0 (And.intro hz1 hz2)))
  have HJ := Lib.hid (And.intro hj (And.intro hy0 (And.intro hy1 hy2)))
  obtain ⟨c0, c1, f0, f1⟩ := h.cells
  obtain ⟨A0, cc, hv, _, _, _⟩ := h.head
  subst hv
  have td : ((deep : Int) == 0) = false := by rw [← Bool.not_eq_true]; simp; omega
  have HH := Lib.hid h
  have HD := Lib.hid hd
  have hdp : (0 : Int) < (deep : Int) := by omega
  clear h hi hz0 hz1 hz2 hj hy0 hy1 hy2 hd
  go_enter Tryz.func17, Tryz.ntmps17
  go_wp2_with fail
  go_loopg [4, 5, 6] l.length (fun gg vL vO i wr => ∃ k : Nat, k ≤ l.length ∧ gg = l.length - k ∧ i = .int .i64 k ∧ CL w l deep k vL vO wr)
  case atStart => exact ⟨0, by omega, rfl, rfl, ⟨World.ownsRow_nil _ _ _ _, World.ownsRow_nil _ _ _ _, by simp [Value.ownBlock], Below.refl _ _⟩⟩
  case round =>
    obtain ⟨k, hk, hgk, rfl, hc⟩ := hrel
    have HGK := Lib.hid hgk
    have HC := Lib.hid hc
    obtain ⟨c0, c1, f0, f1⟩ := (HH.out.keep hc.bel.size fun b hb => hc.bel.block b (HH.out.old b hb).2).cells
    clear hgk hc
    by_cases hlt : k < l.length
    · have t1 : decide ((k : Int) < (l.length : Int)) = true := decide_eq_true (by omega)
      have k0 : (0 : Int) ≤ (k : Int) := by omega
      have k1 : (k : Int) < (l.length : Int) := by omega
      obtain ⟨r, hr⟩ : ∃ r, l[k]? = some r := ⟨_, List.getElem?_eq_getElem hlt⟩
      obtain ⟨g, c2, hv2, _, _, _, hcs, _⟩ := (HH.out.keep HC.out.bel.size fun b hb => HC.out.bel.block b (HH.out.old b hb).2).at_ hr
      injection hv2 with hv2 _ hv3
      subst hv2 hv3
      have q0 := hcs 0 _ rfl
      simp only [Nat.add_zero] at q0
      have q1 := hcs 1 _ rfl
      have q2 := hcs 2 _ rfl
      have q3 := hcs 3 _ rfl
      have q4 := hcs 4 _ rfl
      have q5 := hcs 5 _ rfl
      unfold Ty.row at q3
      have HR := Lib.hid hr
      have hll := lefts_len deep l k
      have hlo := outs_len deep l k
      have hsz := HC.out.bel.size
      clear hcs hr
      by_cases hdd : r.deep < deep
      · have t2 : decide ((r.deep : Int) < (deep : Int)) = true := decide_eq_true (by omega)
        have HDD := Lib.hid hdd
        have HOL : Hid (wr.drew.ownsRow w.heap.size 67 6 u4 (lefts deep (l.take k)).length (rcells (lefts deep (l.take k)))) := Lib.hid (row_keep HC.out.ol fun _ _ => rfl)
        have hszd : w.heap.size ≤ wr.drew.heap.size := hsz
        clear hdd
        go_upto_region 8 with fail
        go_region
        go_wp2_with (at_builtin; refine wpList_append_far rfl _ _ 54 rfl w.heap.size 67 i0 _ 6 80 Tryz.underlying54 HI.out.1 HI.out.2.1 HI.out.2.2.1 HI.out.2.2.2 rfl (by decide) _ (lefts deep (l.take k)).length _ rfl (HOL.out.alloc _) (some ⟨wr.drew.heap.size, 0, none⟩) 1 1 rfl (fun e => by cases e) [.string r.name, .int .u8 r.ty.kind, .string r.ty.name, .slice r.ty.addr r.ty.els.length r.ty.cap, .int .i64 (r.deep : Int), .bool r.used] rfl ?c1 ?c2 ?c3 ?c4 ?c5 ?next)
        case c2 => exact ⟨rfl, rfl, rfl, rfl, rfl, rfl⟩
        case c3 => unfold maxLen; omega
        case c4 => omega
        case c5 => omega
        case next =>
          intro v' w4 ho hg hf
          have HN : Hid (CL w l deep (k + 1) v' u5 w4) := Lib.hid (HC.out.left (X := _) (((Below.refl _ _).alloc (Nat.le_refl _) _).drew) HR.out HDD.out ho hg (fun k hk => (hf k hk).imp id fun h => by simpa using h))
          clear ho hg hf
          go_wp2_with fail
          go_roundg (l.length - (k + 1))
          case rel => exact ⟨k + 1, by omega, rfl, by go_num, HN.out⟩
          case measure => rw [HGK.out]; omega
      · have t2 : decide ((r.deep : Int) < (deep : Int)) = false := decide_eq_false (by omega)
        have HDD := Lib.hid hdd
        clear hdd
        cases hu : r.used with
        | true =>
          rw [hu] at q5
          have HU := Lib.hid hu
          clear hu
          go_upto_region 8 with fail
          go_region
          go_wp2_with fail
          go_roundg (l.length - (k + 1))
          case rel => exact ⟨k + 1, by omega, rfl, by go_num, HC.out.next HR.out HDD.out HU.out (fun _ _ _ => rfl) HC.out.bel.drew⟩
          case measure => rw [HGK.out]; omega
        | false =>
          rw [hu] at q5
          have HU := Lib.hid hu
          have HOO : Hid (wr.drew.ownsRow w.heap.size 9 1 u5 (outs deep (l.take k)).length (strs (outs deep (l.take k)))) := Lib.hid (row_keep HC.out.oo fun _ _ => rfl)
          have hszd : w.heap.size ≤ wr.drew.heap.size := hsz
          clear hu
          go_upto_region 8 with fail
          go_region
          go_wp2_with (at_builtin; go_loud (refine wpList_append_far rfl _ _ 44 rfl w.heap.size 9 j0 _ 1 16 Tryz.underlying44 HJ.out.1 HJ.out.2.1 HJ.out.2.2.1 HJ.out.2.2.2 rfl (by decide) _ (outs deep (l.take k)).length _ rfl (HOO.out.alloc _) (some ⟨wr.drew.heap.size, 0, none⟩) 1 1 rfl (fun e => by cases e) [.string r.name] rfl ?kc1 ?kc2 ?kc3 ?kc4 ?kc5 ?knext))
          case kc2 => rfl
          case kc3 => unfold maxLen; omega
          case kc4 => omega
          case kc5 => omega
          case knext =>
            intro v' w4 ho hg hf
            have HN : Hid (CL w l deep (k + 1) u4 v' w4) := Lib.hid (HC.out.out (X := _) (((Below.refl _ _).alloc (Nat.le_refl _) _).drew) HR.out HDD.out HU.out ho hg (fun k hk => (hf k hk).imp id fun h => by simpa using h))
            clear ho hg hf
            go_wp2_with fail
            go_roundg (l.length - (k + 1))
            case rel => exact ⟨k + 1, by omega, rfl, by go_num, HN.out⟩
            case measure => rw [HGK.out]; omega
    · have t1 : decide ((k : Int) < (l.length : Int)) = false := decide_eq_false (by omega)
      have hke : k = l.length := by omega
      have HE := Lib.hid (close_end HD.out HH.out (hke ▸ HC.out))
      have e1 : (deep : Int) - 1 = (n : Int) := by have := HD.out; omega
      obtain ⟨a1, c1', hv1, _, _, _, _⟩ := FlT.own_shape HC.out.ol
      obtain ⟨a2, c2', hv2, _, _, _, _⟩ := FlT.own_shape HC.out.oo
      subst hv1 hv2
      clear hke
      go_wp2_with fail
      refine bodyPost_ret (v := .tuple #[.slice a2 (outs deep (l.take k)).length c2', .int .i64 0]) (by simp [results, Tryz.results17, go_sem]) rfl ?_
      exact HE.out
end Go.Proofs.YtfpjleabmemieaaGreat
