/- The law ScopeNil. -/
import Derived.Test.YtecncjbphdacjaaScoN
set_option maxRecDepth 100000
namespace Go.Proofs.Ytecncjbphdacjaa
open Go.Instr Go.RowKit ScoT
set_option linter.unusedVariables false
theorem NoScope.under {w w' : World} {p : Option Addr} (h : NoScope w p) (hb : Below w.heap.size w w') : NoScope w' p := by
  rcases h with h | ⟨b, rfl, h⟩
  · exact .inl h
  · exact .inr ⟨b, rfl, (hb.cell (World.block_lt_of_cell? _ _ h)).trans h⟩
def zeroV : Value := .agg #[.int .u8 0, .string ⟨#[]⟩, .slice none 0 0]
theorem tell_no (p : Option Addr) (name : ByteArray) (f : Nat) (w : World) (h : NoScope w p) : Calls Try.prog 25 #[.pointer p, .string name, .func (.func f) #[] #[]] w fun e w' => e = .returned (.tuple #[.agg #[.int .u8 0, .string ⟨#[]⟩, .slice none 0 0], .bool false]) ∧ Below w.heap.size w w' := by
  have hb : Below w.heap.size w ((((w.alloc (.cells #[.string name] 9)).alloc (.cells #[.func (.func f) #[] #[]] 61)).alloc (.cells #[.int .u8 0, .string ⟨#[]⟩, .slice none 0 0] 36)).alloc (.cells #[.bool false] 4)) := ((((Below.refl _ w).alloc (Nat.le_refl _) _).alloc (by simp) _).alloc (by simp; omega) _).alloc (by simp; omega) _
  have hn := h.under hb
  clear h
  go_enter Try.func25, Try.ntmps25
  go_wp2_with (go_at_call 20; refine (isMade_no p _ hn).mono ?_; rintro e w' ⟨rfl, rfl⟩)
  obtain ⟨q2, q3⟩ := alloc4' w (.cells #[.string name] 9) (.cells #[.func (.func f) #[] #[]] 61) (.cells #[.int .u8 0, .string ⟨#[]⟩, .slice none 0 0] 36) (.cells #[.bool false] 4)
  obtain ⟨⟨r0, r1, r2⟩, _⟩ := cs3_of q2
  have r3 : World.cell? ((((w.alloc (.cells #[.string name] 9)).alloc (.cells #[.func (.func f) #[] #[]] 61)).alloc (.cells #[.int .u8 0, .string ⟨#[]⟩, .slice none 0 0] 36)).alloc (.cells #[.bool false] 4)) ⟨w.heap.size + 1 + 1 + 1, 0, none⟩ = some (.bool false) := by unfold World.cell?; rw [q3]; rfl
  refine bodyPost_ret (v := .tuple #[.agg #[.int .u8 0, .string ⟨#[]⟩, .slice none 0 0], .bool false]) (by simp [results, Try.results25, go_sem, r0, r1, r2, r3]) rfl ?_
  exact ⟨rfl, hb⟩
theorem Look_no (p : Option Addr) (name : ByteArray) (w : World) (h : NoScope w p) : Calls Try.prog 8 #[.pointer p, .string name] w fun e w' => e = .returned (.tuple #[.agg #[.int .u8 0, .string ⟨#[]⟩, .slice none 0 0], .bool false]) ∧ Below w.heap.size w w' := by
  have hb1 : Below w.heap.size w (w.alloc (.cells #[.int .u8 0, .string ⟨#[]⟩, .slice none 0 0] 36)) := (Below.refl _ _).alloc (Nat.le_refl _) _
  have HT := Lib.hid (tell_no p name 26 _ (h.under hb1))
  clear h
  go_enter Try.func8, Try.ntmps8
  go_wp2_with (go_at_call 25; refine HT.out.mono ?_; rintro e w' ⟨rfl, hb⟩
               obtain ⟨⟨r0, r1, r2⟩, rf⟩ := cs3_of ((hb.block w.heap.size (by simp)).trans (World.alloc_heap_new w _))
               have HB := Lib.hid hb; clear hb)
  refine bodyPost_ret (v := .tuple #[.agg #[.int .u8 0, .string ⟨#[]⟩, .slice none 0 0], .bool false]) (by simp [results, Try.results8, go_sem, r0, r1, r2]) rfl ?_
  exact ⟨rfl, (((hb1.trans (HB.out.mono (by simp))).setCell (p := ⟨w.heap.size, 0, none⟩) (Nat.le_refl _) _).setCell (p := ⟨w.heap.size, 1, none⟩) (Nat.le_refl _) _).setCell (p := ⟨w.heap.size, 2, none⟩) (Nat.le_refl _) _⟩
theorem Use_no (p : Option Addr) (name : ByteArray) (w : World) (h : NoScope w p) : Calls Try.prog 9 #[.pointer p, .string name] w fun e w' => e = .returned (.tuple #[.agg #[.int .u8 0, .string ⟨#[]⟩, .slice none 0 0], .bool false]) ∧ Below w.heap.size w w' := by
  have hb1 : Below w.heap.size w (w.alloc (.cells #[.int .u8 0, .string ⟨#[]⟩, .slice none 0 0] 36)) := (Below.refl _ _).alloc (Nat.le_refl _) _
  have HT := Lib.hid (tell_no p name 27 _ (h.under hb1))
  clear h
  go_enter Try.func9, Try.ntmps9
  go_wp2_with (go_at_call 25; refine HT.out.mono ?_; rintro e w' ⟨rfl, hb⟩
               obtain ⟨⟨r0, r1, r2⟩, rf⟩ := cs3_of ((hb.block w.heap.size (by simp)).trans (World.alloc_heap_new w _))
               have HB := Lib.hid hb; clear hb)
  refine bodyPost_ret (v := .tuple #[.agg #[.int .u8 0, .string ⟨#[]⟩, .slice none 0 0], .bool false]) (by simp [results, Try.results9, go_sem, r0, r1, r2]) rfl ?_
  exact ⟨rfl, (((hb1.trans (HB.out.mono (by simp))).setCell (p := ⟨w.heap.size, 0, none⟩) (Nat.le_refl _) _).setCell (p := ⟨w.heap.size, 1, none⟩) (Nat.le_refl _) _).setCell (p := ⟨w.heap.size, 2, none⟩) (Nat.le_refl _) _⟩
theorem ScopeNil_any (name : ByteArray) (w : World) : Calls Try.prog 3 #[.string name] w fun e w' => e = .returned (.bool true) ∧ Below w.heap.size w w' := by
  go_enter Try.func3, Try.ntmps3
  go_wp2_with (go_at_call 5; refine (awake_any _).mono ?_; rintro e w1 ⟨rfl, hb1⟩; have HB1 := Lib.hid hb1; clear hb1)
  obtain ⟨n, hn⟩ : ∃ n, n = w1.heap.size := ⟨_, rfl⟩
  obtain ⟨W0, hW0⟩ : ∃ W0, W0 = (w1.alloc (.cells #[.slice none 0 0, .pointer none] 27)).alloc (.cells #[.pointer none, .pointer (some ⟨w1.heap.size, 0, none⟩)] 23) := ⟨_, rfl⟩
  rw [← hW0, ← hn]
  have hb0 : Below w.heap.size w W0 := by rw [hW0]; exact (HB1.out.alloc HB1.out.size _).alloc (by simp; have := HB1.out.size; omega) _
  have r0 : W0.heap[n]? = some (.cells #[.slice none 0 0, .pointer none] 27) := by rw [hW0, Below.heap_alloc _ _ _ (by simp; omega), hn]; exact World.alloc_heap_new _ _
  have r1 : W0.heap[n + 1]? = some (.cells #[.pointer none, .pointer (some ⟨n, 0, none⟩)] 23) := by
    have := World.alloc_heap_new (w1.alloc (.cells #[.slice none 0 0, .pointer none] 27)) (.cells #[.pointer none, .pointer (some ⟨w1.heap.size, 0, none⟩)] 23)
    rw [World.size_alloc, ← hn] at this
    rw [hW0, ← hn]; exact this
  have hp : ∀ i : Nat, i < 2 → ∃ p, W0.cell? ⟨n + 1, i, none⟩ = some (.pointer p) ∧ NoScope W0 p := fun i hi => by
    match i, hi with
    | 0, _ => exact ⟨none, by unfold World.cell?; rw [r1]; rfl, .inl rfl⟩
    | 1, _ => exact ⟨some ⟨n, 0, none⟩, by unfold World.cell?; rw [r1]; rfl, .inr ⟨n, rfl, by unfold World.cell?; rw [r0]; rfl⟩⟩
  have HP := Lib.hid hp
  have HB0 := Lib.hid hb0
  clear hp hb0 r0 r1 hW0 hn HB1
  go_loopg [4] 2 (fun gg v wr => ∃ i : Nat, i ≤ 2 ∧ gg = 2 - i ∧ v = .int .i64 i ∧ Below W0.heap.size W0 wr)
  case atStart => exact ⟨0, by omega, rfl, rfl, Below.refl _ _⟩
  case round =>
    obtain ⟨i, hi, hgi, rfl, hbl⟩ := hrel
    have HGI := Lib.hid hgi
    have HBL := Lib.hid hbl
    clear hgi hbl
    by_cases hlt : i < 2
    · have t1 : decide ((i : Int) < 2) = true := decide_eq_true (by omega)
      obtain ⟨p, hc, hno⟩ := HP.out i hlt
      have c0 : wr.cell? ⟨n + 1, i, none⟩ = some (.pointer p) := (HBL.out.cell (World.block_lt_of_cell? _ _ hc)).trans hc
      have HNO := Lib.hid (hno.under HBL.out)
      have k0 : (0 : Int) ≤ (i : Int) := by omega
      have k1 : (i : Int) < 2 := by omega
      have k1' : (i : Int) < ((2 : Nat) : Int) := by omega
      clear hc hno
      go_wp2_with (first
        | (go_at_call 6; refine (Open_no p _ HNO.out).mono ?_; rintro e wa ⟨rfl, rfl⟩)
        | (go_at_call 7; refine (Close_no p _ HNO.out).mono ?_; rintro e wa ⟨rfl, rfl⟩)
        | (go_at_call 8; refine (Look_no p name _ HNO.out).mono ?_; rintro e wb ⟨rfl, hb⟩
           have hbb := hb.trans ((alloc_below wb (.cells #[.int .u8 0, .string ⟨#[]⟩, .slice none 0 0] 36)).mono hb.size)
           have c1 : (wb.alloc (.cells #[.int .u8 0, .string ⟨#[]⟩, .slice none 0 0] 36)).cell? ⟨n + 1, i, none⟩ = some (.pointer p) := (hbb.cell (World.block_lt_of_cell? _ _ c0)).trans c0
           have HNO := Lib.hid (HNO.out.under hbb)
           have HBB := Lib.hid hbb; clear hb hbb)
        | (go_at_call 9; refine (Use_no p name _ HNO.out).mono ?_; rintro e wc ⟨rfl, hb⟩
           have hbb := hb.trans ((alloc_below wc (.cells #[.int .u8 0, .string ⟨#[]⟩, .slice none 0 0] 36)).mono hb.size)
           have c2 : (wc.alloc (.cells #[.int .u8 0, .string ⟨#[]⟩, .slice none 0 0] 36)).cell? ⟨n + 1, i, none⟩ = some (.pointer p) := (hbb.cell (World.block_lt_of_cell? _ _ c1)).trans c1
           have HNO := Lib.hid (HNO.out.under hbb)
           have HCC := Lib.hid hbb; clear hb hbb))
      obtain ⟨X, hX⟩ : ∃ X, X = wc.alloc (.cells #[.int .u8 0, .string ⟨#[]⟩, .slice none 0 0] 36) := ⟨_, rfl⟩
      rw [← hX] at HNO HCC c2 ⊢
      obtain ⟨⟨u0, u1, u2'⟩, _⟩ := cs3_of ((HCC.out.block wb.heap.size (by simp)).trans (World.alloc_heap_new wb (.cells #[.int .u8 0, .string ⟨#[]⟩, .slice none 0 0] 36)))
      obtain ⟨⟨v0, v1, v2⟩, _⟩ := cs3_of (show X.heap[wc.heap.size]? = _ by rw [hX]; exact World.alloc_heap_new wc _)
      have hBX : Below W0.heap.size W0 X := below_step HBL.out (below_step HBB.out HCC.out HBB.out.size) HBL.out.size
      have HBX := Lib.hid hBX
      have x0 := X.ext_cell c2
      have x1 := X.ext_cell u0
      have x2 := X.ext_cell u1
      have x3 := X.ext_cell u2'
      have x4 := X.ext_cell v0
      have x5 := X.ext_cell v1
      have x6 := X.ext_cell v2
      have HD : Hid (∀ z, Calls Try.prog 10 #[.pointer p] (X.ext z) fun e w'' => e = .returned (.int .i64 0) ∧ ∃ y, w'' = X.ext y) := Lib.hid fun z =>
        Calls.ext_of ((Deep_no p _ (HNO.out.under (X.ext_below z))).mono fun e w' ⟨h1, h2⟩ => ⟨h1, by rw [h2]; exact Below.refl _ _⟩)
      have HS : Hid (∀ z, Calls Try.prog 11 #[.agg #[.int .u8 0, .string ⟨#[]⟩, .slice none 0 0], .agg #[.int .u8 0, .string ⟨#[]⟩, .slice none 0 0]] (X.ext z) fun e w'' => e = .returned (.bool true) ∧ ∃ y, w'' = X.ext y) := Lib.hid fun z =>
        Calls.ext_of (SameType_any zeroTy zeroTy _ (fun _ => False) (fun _ => False) (In.zero _ _) (In.zero _ _) (fun _ h => h.elim) (fun _ h => h.elim))
      have HK : Hid (∀ z, Calls Try.prog 13 #[.int .u8 1] (X.ext z) fun e w'' => e = .returned (.agg #[.int .u8 1, .string ⟨#[]⟩, .slice none 0 0]) ∧ ∃ y, w'' = X.ext y) := Lib.hid fun z =>
        Calls.ext_of (kind_any 1 (by decide) _)
      have HDc : Hid (∀ z, Calls Try.prog 12 #[.pointer p, .string name, .agg #[.int .u8 1, .string ⟨#[]⟩, .slice none 0 0]] (X.ext z) fun e w'' => e = .returned (.int .i64 1) ∧ ∃ y, w'' = X.ext y) := Lib.hid fun z =>
        Calls.ext_of (Declare_no p _ (HNO.out.under (X.ext_below z)) name (kindTy 1))
      clear hX hBX c2 u0 u1 u2' v0 v1 v2 c0 c1
      refine wp_region_ext_lit (by kernel_rfl) (by kernel_rfl) ?_
      repeat (go_big_quiet_step (first | exact HD.out _ | exact HS.out _ | exact HK.out _ | exact HDc.out _))
      refine wpQuiet_nil ?_
      rintro _ ⟨z, rfl⟩
      have hbz := below_step HBX.out (X.ext_below z) HBX.out.size
      generalize X.ext z = w9 at hbz ⊢
      go_wp2_with fail
      go_roundg (2 - (i + 1))
      case rel => exact ⟨i + 1, by omega, rfl, by go_num, hbz⟩
      case measure => rw [HGI.out]; omega
    · have t1 : decide ((i : Int) < 2) = false := decide_eq_false (by omega)
      go_wp2_with fail
      go_ret
      exact ⟨rfl, HB0.out.trans (HBL.out.mono HB0.out.size)⟩
end Go.Proofs.Ytecncjbphdacjaa
