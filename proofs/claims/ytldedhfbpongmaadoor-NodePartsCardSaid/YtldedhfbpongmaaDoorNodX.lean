import Derived.Test.YtldedhfbpongmaaDoorNodW
set_option maxRecDepth 100000
namespace Go.Proofs.YtldedhfbpongmaaDoor
open Go.Instr Go.RowKit NodT
set_option linter.unusedVariables false
def misfits : List PanicEntry := [{ v := .iface 52 (.agg #[]), recovered := false }]
theorem must_yes (w : World) : Calls Tryd.prog 23 #[.bool true] w fun e w' => e = .returned (.tuple #[]) ∧ w = w' := by
  go_enter Tryd.func23, Tryd.ntmps23
  go_wp2_with fail
  go_end0
  exact ⟨rfl, rfl⟩
theorem must_no (w : World) : Calls Tryd.prog 23 #[.bool false] w fun e w' => e = .panicked misfits ∧ w = w' := by
  go_enter Tryd.func23, Tryd.ntmps23
  go_wp2_with fail
  exact ⟨rfl, rfl, rfl⟩

/-- A row of kinds. -/
structure KindsAt (w : World) (g o : Nat) (ks : List Nat) : Prop where
  len : ks.length ≤ 100
  small : ∀ k ∈ ks, k < 256
  at_ : ∀ (i k : Nat), ks[i]? = some k → w.cell? ⟨g, o + i, none⟩ = some (.int .u8 k)
theorem KindsAt.keep {w w' : World} {g o : Nat} {ks : List Nat} (h : KindsAt w g o ks) (hw : ∀ j, w'.cell? ⟨g, j, none⟩ = w.cell? ⟨g, j, none⟩) : KindsAt w' g o ks :=
  ⟨h.len, h.small, fun i k hi => (hw _).trans (h.at_ i k hi)⟩
theorem Index_any (ks : List Nat) (g o c k : Nat) (w : World) (h : KindsAt w g o ks) (hl : ks.length ≤ c) :
    Calls Tryd.prog 41 #[.slice (some ⟨g, o, none⟩) ks.length c, .int .u8 k] w fun e w' => (∃ i : Int, e = .returned (.int .i64 i) ∧ decide (0 ≤ i) = ks.contains k) ∧ w = w' := by
  have hlen := h.len
  go_enter Tryd.func41, Tryd.ntmps41
  go_wp2_with fail
  go_loopg [5, 8] ks.length (fun gg i5 i wr => ∃ j : Nat, j ≤ ks.length ∧ gg = ks.length - j ∧ i = .int .i64 j ∧ (ks.take j).contains k = false ∧ w = wr)
  case atStart => exact ⟨0, by omega, rfl, rfl, by simp, rfl⟩
  case round =>
    obtain ⟨j, hj, hgk, rfl, hX, rfl⟩ := hrel
    have HGK := Lib.hid hgk
    have HX := Lib.hid hX
    clear hgk hX
    by_cases hlt : j < ks.length
    · obtain ⟨x, hx⟩ : ∃ x, ks[j]? = some x := ⟨_, List.getElem?_eq_getElem hlt⟩
      have hc := h.at_ j x hx
      have HS : Hid ((ks.take (j + 1)).contains k = (k == x)) := by
        show _ = _
        rw [List.take_add_one, hx]
        have := HX.out
        simp only [List.contains_eq_any_beq, List.any_append, Option.toList, List.any_cons, List.any_nil, Bool.or_false] at this ⊢
        rw [this]; simp
      have HM := Lib.hid (List.mem_of_getElem? hx)
      clear hx
      by_cases hk : k = x
      · have he : ((k : Int) == x) = true := by simp [hk]
        have HK := Lib.hid hk
        clear hk
        go_wp2_with fail
        go_ret
        refine ⟨⟨(j : Int), rfl, ?_⟩, rfl⟩
        rw [HK.out]
        have : ks.contains x = true := by simpa using HM.out
        rw [this]
        simp
      · have he : ((k : Int) == x) = false := by simp; omega
        have HK := Lib.hid hk
        clear hk
        go_wp2_with fail
        go_roundg (ks.length - (j + 1))
        case rel => exact ⟨j + 1, by omega, rfl, by go_num, by rw [HS.out]; simpa using HK.out, rfl⟩
        case measure => rw [HGK.out]; omega
    · have hjl : j = ks.length := by omega
      rw [hjl, List.take_length] at HX
      clear hjl
      go_wp2_with fail
      go_ret
      exact ⟨⟨-1, rfl, by rw [HX.out]; rfl⟩, rfl⟩
theorem Contains_any (ks : List Nat) (g o c k : Nat) (w : World) (h : KindsAt w g o ks) (hl : ks.length ≤ c) :
    Calls Tryd.prog 31 #[.slice (some ⟨g, o, none⟩) ks.length c, .int .u8 k] w fun e w' => e = .returned (.bool (ks.contains k)) ∧ w = w' := by
  have HI := Lib.hid (Index_any ks g o c k w h hl)
  clear h
  go_enter Tryd.func31, Tryd.ntmps31
  go_wp2_with fail
  refine HI.out.mono ?_
  rintro e w' ⟨⟨i, rfl, hd⟩, rfl⟩
  have HD := Lib.hid hd
  clear hd
  go_wp2_with fail
  go_ret
  exact ⟨ret_bool HD.out, rfl⟩
/-- A question: whether a node's kind is one of a row. -/
def kindsV (b : Nat) : Value := .func (.func 30) #[] #[.pointer (some ⟨b, 0, none⟩)]
/-- The question's memory. -/
def KindsBox (w : World) (b : Nat) (ks : List Nat) : Prop := ∃ g o c, w.cell? ⟨b, 0, none⟩ = some (.slice (some ⟨g, o, none⟩) ks.length c) ∧ ks.length ≤ c ∧ KindsAt w g o ks ∧ g < w.heap.size
theorem of_any (g o n c : Nat) (w : World) : Calls Tryd.prog 24 #[.slice (some ⟨g, o, none⟩) n c] w fun e w' => e = .returned (.func (.func 30) #[] #[.pointer (some ⟨w.heap.size, 0, none⟩)]) ∧ w.alloc (.cells #[.slice (some ⟨g, o, none⟩) n c] 53) = w' := by
  have hmf : ∀ (fn : Fn) (first cap : Array Value) (w : World), (Instr.makeFunc fn first cap).run Tryd.prog w = .ok (.func fn first cap) w := fun _ _ _ _ => rfl
  go_enter Tryd.func24, Tryd.ntmps24
  go_wp2_with fail
  go_ret
  exact ⟨rfl, rfl⟩
theorem ofS1_any (t : Nd) (b : Nat) (ks : List Nat) (w : World) (h : KindsBox w b ks) (hb : b < w.heap.size) : Calls Tryd.prog 30 #[t.val, .pointer (some ⟨b, 0, none⟩)] w fun e w' => e = .returned (.bool (ks.contains t.kind)) ∧ Below w.heap.size w w' := by
  obtain ⟨g, o, c, hc, hl, hk, hg⟩ := h
  have HK : Hid (∀ ob, KindsAt (w.alloc ob) g o ks) := fun ob => hk.keep fun j => World.cell?_alloc_lt w ob _ hg
  have HL := Lib.hid hl
  clear hk hl hg
  unfold Nd.val Nd.row
  go_enter Tryd.func30, Tryd.ntmps30
  go_wp2_with fail
  refine (Contains_any ks g o c t.kind _ (HK.out _) HL.out).mono ?_
  rintro e w' ⟨rfl, rfl⟩
  go_wp2_with fail
  go_ret
  exact ⟨ret_bool (by simp), (Below.refl _ _).alloc (Nat.le_refl _) _⟩
theorem KindsBox.keep {w w' : World} {b : Nat} {ks : List Nat} (h : KindsBox w b ks) (hb : b < w.heap.size) (hw : ∀ p : Addr, p.block < w.heap.size → w'.cell? p = w.cell? p) (hs : w.heap.size ≤ w'.heap.size) : KindsBox w' b ks := by
  obtain ⟨g, o, c, h1, h2, h3, h4⟩ := h
  exact ⟨g, o, c, (hw _ hb).trans h1, h2, h3.keep fun j => hw _ h4, by omega⟩
/-- A question over a literal row, just made: the row's block, the box behind it. -/
theorem KindsBox.new (w : World) (ks : List Nat) (hl : ks.length ≤ 100) (hs : ∀ k ∈ ks, k < 256) (w1 : World) (h1 : w.alloc (.cells (ks.map fun (k : Nat) => Value.int .u8 (k : Int)).toArray 22) = w1) :
    KindsBox (w1.alloc (.cells #[.slice (some ⟨w.heap.size, 0, none⟩) ks.length ks.length] 53)) (w.heap.size + 1) ks := by
  subst h1
  refine ⟨w.heap.size, 0, ks.length, ?_, Nat.le_refl _, ⟨hl, hs, fun i k hi => ?_⟩, by simp; omega⟩
  · have e : w.heap.size + 1 = (w.alloc (.cells (ks.map fun (k : Nat) => Value.int .u8 (k : Int)).toArray 22)).heap.size := by simp
    rw [e, World.cell?_alloc_new]
    rfl
  · rw [World.cell?_alloc_lt _ _ _ (by simp), World.cell?_alloc_new]
    simp [hi]
/-- The same, its row's block named. -/
def KindsBoxAt (w : World) (b g : Nat) (ks : List Nat) : Prop := w.cell? ⟨b, 0, none⟩ = some (.slice (some ⟨g, 0, none⟩) ks.length ks.length) ∧ KindsAt w g 0 ks ∧ g < w.heap.size
theorem KindsBoxAt.box {w : World} {b g : Nat} {ks : List Nat} (h : KindsBoxAt w b g ks) : KindsBox w b ks := ⟨g, 0, ks.length, h.1, Nat.le_refl _, h.2.1, h.2.2⟩
theorem KindsBoxAt.keep {w w' : World} {b g : Nat} {ks : List Nat} (h : KindsBoxAt w b g ks) (hw : ∀ p : Addr, p.block = b ∨ p.block = g → w'.cell? p = w.cell? p) (hs : w.heap.size ≤ w'.heap.size) : KindsBoxAt w' b g ks :=
  ⟨(hw _ (.inl rfl)).trans h.1, h.2.1.keep fun j => hw _ (.inr rfl), Nat.lt_of_lt_of_le h.2.2 hs⟩
theorem KindsBoxAt.new (w : World) (ks : List Nat) (hl : ks.length ≤ 100) (hs : ∀ k ∈ ks, k < 256) (w1 : World) (h1 : w.alloc (.cells (ks.map fun (k : Nat) => Value.int .u8 (k : Int)).toArray 22) = w1) :
    KindsBoxAt (w1.alloc (.cells #[.slice (some ⟨w.heap.size, 0, none⟩) ks.length ks.length] 53)) (w.heap.size + 1) w.heap.size ks := by
  subst h1
  refine ⟨?_, ⟨hl, hs, fun i k hi => ?_⟩, by simp; omega⟩
  · have e : w.heap.size + 1 = (w.alloc (.cells (ks.map fun (k : Nat) => Value.int .u8 (k : Int)).toArray 22)).heap.size := by simp
    rw [e, World.cell?_alloc_new]
    rfl
  · rw [World.cell?_alloc_lt _ _ _ (by simp), World.cell?_alloc_new]
    simp [hi]
end Go.Proofs.YtldedhfbpongmaaDoor
