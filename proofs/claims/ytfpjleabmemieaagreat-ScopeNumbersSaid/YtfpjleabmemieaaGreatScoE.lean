/- pop, unused, Close. -/
import Derived.Test.YtfpjleabmemieaaGreatScoD
set_option maxRecDepth 100000
namespace ScoT
open Go Go.RowKit
set_option linter.unusedVariables false
theorem findYtfpjleabmemieaaGreatnodup {l : List Nm} (hn : (l.map Nm.name).Nodup) {j : Nat} {m : Nm} (hj : l[j]? = some m) : findN m.name l = some j := by
  induction l generalizing j with
  | nil => simp at hj
  | cons n ns ih =>
    simp only [List.map_cons, List.nodup_cons] at hn
    cases j with
    | zero =>
      obtain rfl : n = m := by simpa using hj
      simp [findN]
    | succ j =>
      have hj' : ns[j]? = some m := by simpa using hj
      have hne : ¬ n.name = m.name := fun e => hn.1 (by rw [e]; exact List.mem_map_of_mem (List.mem_of_getElem? hj'))
      simp [findN, hne, ih hn.2 hj']
theorem look_ents {l : List Nm} {s : ByteArray} {j : Nat} {m : Nm} (hf : findN s l = some j) (hj : l[j]? = some m) : Instr.findNow .string (.string s) (ents l).toList 0 = some (some (j, .pointer (some ⟨m.loc, 0, none⟩))) := by
  have := find_ents s l 0 0
  simp only [ents] at this ⊢
  rw [this, hf]
  simp [hj]
theorem look_no {l : List Nm} {s : ByteArray} (hf : findN s l = none) : Instr.findNow .string (.string s) (ents l).toList 0 = some none := by
  have := find_ents s l 0 0
  simp only [ents] at this ⊢
  rw [this, hf]
  rfl
/-- What was not used. -/
def left (l : List Nm) : List ByteArray := (l.filter fun m => !m.used).map Nm.name
theorem left_snoc (l : List Nm) (m : Nm) : left (l ++ [m]) = left l ++ (if m.used then [] else [m.name]) := by
  unfold left
  cases h : m.used <;> simp [List.filter_append, h]
def strs (l : List ByteArray) : List Value := l.map Value.string
theorem left_len (l : List Nm) : (left l).length ≤ l.length := by unfold left; rw [List.length_map]; exact List.length_filter_le _ _
end ScoT
namespace Go.Proofs.YtfpjleabmemieaaGreat
open Go.Instr Go.RowKit ScoT
set_option linter.unusedVariables false
variable {w : World} {tag : Nat → Tag} {n₀ s : Nat} {A : Option Addr} {cap : Nat} {bs : List Bk}
theorem pop_any {k : Bk} {g : Nat} {xs : List Bk} (h : SC w tag n₀ s (some ⟨g, 0, none⟩) cap (xs ++ [k])) (hl : xs.length ≤ 1000000) :
    Calls Tryz.prog 36 #[.pointer (some ⟨s, 0, none⟩)] w fun e w' => e = .returned (.pointer (some ⟨k.loc, 0, none⟩)) ∧
      w' = (w.setCell ⟨g, xs.length, none⟩ (.pointer none)).setCell ⟨s, 0, none⟩ (.slice (some ⟨g, 0, none⟩) xs.length cap) := by
  have c0 := h.c0
  have f0 := h.fr 0
  have hp : w.cell? ⟨g, xs.length, none⟩ = some (.pointer (some ⟨k.loc, 0, none⟩)) := row_ptr h.own (by simp)
  have hpf := row_frozen h.own xs.length
  have hcp := row_cap h.own
  rw [List.length_append, List.length_singleton] at c0 hcp
  have hgs : ¬ g = s := by
    intro e
    have h1 := h.rt g rfl
    rw [e, h.tg] at h1; cases h1
  have hsg : ¬ s = g := fun e => hgs e.symm
  have e0 : IntKind.i64.wrap (((xs.length + 1 : Nat) : Int) - 1) = (xs.length : Int) := by rw [IntWalk.i64_in _ (by omega)]; omega
  have k1 : (xs.length : Int) < ((xs.length + 1 : Nat) : Int) := by omega
  have k2 : xs.length ≤ cap := by omega
  have H := Lib.hid hp
  clear h hcp
  go_enter Tryz.func36, Tryz.ntmps36
  go_wp2_with (go_at_call 39; refine (innermost_any (xs := xs) (k := k) H.out hl rfl).mono ?_; rintro e w' ⟨rfl, rfl⟩)
  go_ret
  exact ⟨rfl, rfl⟩
set_option maxHeartbeats 2000000 in
theorem unused_any {k : Bk} {i : Nat} (h : BkAt w tag n₀ 9 i k) (hl : k.names.length ≤ 1000000) :
    Calls Tryz.prog 37 #[.pointer (some ⟨k.loc, 0, none⟩)] w fun e w' => ∃ v, e = .returned v ∧ w'.ownsRow w.heap.size 9 1 v (left k.names).length (strs (left k.names)) ∧ Below w.heap.size w w' := by
  obtain ⟨i0, hi, hz0, hz1, hz2⟩ := info_parts Tryz.infoStr
  have HI := Lib.hid hi
  have HZ := Lib.hid (And.intro hz0 (And.intro hz1 hz2))
  clear hi hz0 hz1 hz2
  have H := Lib.hid h
  have HL := Lib.hid hl
  have c0 := h.c0
  have c1 := h.c1
  obtain ⟨B, n, c, ho⟩ : ∃ B n c, k.ord = .slice B n c ∧ n = k.names.length := by
    rcases h.own.2 with ⟨h1, h2⟩ | ⟨g, c, cur, h1, _⟩
    · exact ⟨none, 0, 0, h1, h2.symm⟩
    · exact ⟨_, _, c, h1, rfl⟩
  obtain ⟨ho, rfl⟩ := ho
  have HO := Lib.hid ho
  rw [ho] at c0
  clear h ho
  go_enter Tryz.func37, Tryz.ntmps37
  go_wp2_with fail
  go_loopg [3, 11] k.names.length (fun gg o v wr => ∃ j : Nat, j ≤ k.names.length ∧ gg = k.names.length - j ∧ v = .int .i64 j ∧ Below w.heap.size w wr ∧ wr.ownsRow w.heap.size 9 1 o (left (k.names.take j)).length (strs (left (k.names.take j))))
  case atStart => exact ⟨0, by omega, rfl, rfl, Below.refl _ _, by simp [left, strs, World.ownsRow_nil]⟩
  case round =>
    obtain ⟨j, hj, hgj, rfl, hbl, hown⟩ := hrel
    have HGJ := Lib.hid hgj
    have HB := Lib.hid hbl
    have HOW := Lib.hid hown
    clear hgj hbl hown
    by_cases hlt : j < k.names.length
    · have t1 : decide ((j : Int) < (k.names.length : Int)) = true := decide_eq_true (by omega)
      have k0 : (0 : Int) ≤ (j : Int) := by omega
      have k1 : (j : Int) < (k.names.length : Int) := by omega
      obtain ⟨m, hm⟩ : ∃ m, k.names[j]? = some m := ⟨_, List.getElem?_eq_getElem hlt⟩
      obtain ⟨g, rfl⟩ : ∃ g, B = some ⟨g, 0, none⟩ := by
        have := H.out.own
        rw [HO.out] at this
        obtain ⟨g, c', hv⟩ := own_slice this (by omega)
        injection hv with h1 _ _
        exact ⟨g, h1⟩
      have hM := H.out.ms j m hm
      have keep : ∀ (p : Addr) (v : Value), w.cell? p = some v → wr.cell? p = some v := fun p v hv => (HB.out.cell (World.block_lt_of_cell? _ _ hv)).trans hv
      have d0 : wr.cell? ⟨g, j, none⟩ = some (.string m.name) := by
        refine keep _ _ ?_
        have h1 := H.out.own
        rw [HO.out] at h1
        have h2 := h1.cells (g := g) rfl j (.string m.name) (by rw [List.getElem?_map, hm]; rfl)
        have hadd : (⟨g, 0, none⟩ : Addr).add j = ⟨g, j, none⟩ := by unfold Addr.add; split <;> simp_all
        rwa [hadd] at h2
      have d1 : wr.cell? ⟨k.loc, 1, none⟩ = some (.map (some k.mp)) := keep _ _ c1
      have d2 : wr.cell? ⟨m.loc, 3, none⟩ = some (.bool m.used) := keep _ _ hM.c3
      have hmp : wr.heap[k.mp]? = some (.map (ents k.names) k.names.length) := (HB.out.block _ (Array.getElem?_eq_some_iff.1 H.out.mp).1).trans H.out.mp
      have hlk := run_lookup_there (P := Tryz.prog) false 113 9 63 wr k.mp (ents k.names) k.names.length m.name j _ Tryz.underlying113 Tryz.underlying9 hmp (look_ents (findYtfpjleabmemieaaGreatnodup H.out.nd hm) hm)
      simp only [Bool.false_eq_true, if_false] at hlk
      have HT : Hid (left (k.names.take (j + 1)) = left (k.names.take j) ++ (if m.used then [] else [m.name])) := Lib.hid (by rw [List.take_add_one, hm]; exact left_snoc _ _)
      have HJL : Hid ((left (k.names.take j)).length ≤ 1000000) := Lib.hid (by have h1 := left_len (k.names.take j); have h2 := HL.out; rw [List.length_take] at h1; omega)
      have HM := Lib.hid hM
      clear hM keep hmp hm
      cases hu : m.used with
      | true =>
        rw [hu] at d2
        go_wp2_with fail
        go_roundg (k.names.length - (j + 1))
        case rel => exact ⟨j + 1, by omega, rfl, by have := HL.out; go_num, HB.out, by rw [HT.out, hu]; simpa using HOW.out⟩
        case measure => rw [HGJ.out]; omega
      | false =>
        rw [hu] at d2
        go_wp2_with (at_builtin; refine wpList_append_far rfl (.tmp 25) (.tmp 27) 44 rfl w.heap.size 9 i0 _ 1 16 Tryz.underlying44 HI.out HZ.out.1 HZ.out.2.1 HZ.out.2.2 rfl (by decide) _ (left (k.names.take j)).length _ rfl (HOW.out.alloc _) (some ⟨wr.heap.size, 0, none⟩) 1 1 rfl (fun e => by cases e) [.string m.name] rfl ?c1 ?c2 ?c3 ?c4 ?c5 ?next)
        case c1 =>
          intro ad had
          cases had
          exact new_cells wr [.string m.name] 9
        case c2 => intro u hu; rw [List.mem_singleton.1 hu]; rfl
        case c3 => have := HJL.out; unfold maxLen; omega
        case c4 => have := HJL.out; omega
        case c5 => have := HB.out.size; simp; omega
        case next =>
          intro v' w4 ho hg hf
          have HO4 := Lib.hid ho
          have HG4 := Lib.hid hg
          clear ho hg hf
          go_wp2_with fail
          go_roundg (k.names.length - (j + 1))
          case rel =>
            refine ⟨j + 1, by omega, rfl, by have := HL.out; go_num, ?_, ?_⟩
            · exact (HB.out.alloc HB.out.size _).grown HG4.out (by have := HB.out.size; simp; omega) (fun b hb => (HOW.out.lt b hb).1)
            · rw [HT.out, hu]
              simpa [strs] using HO4.out
          case measure => rw [HGJ.out]; omega
    · have t1 : decide ((j : Int) < (k.names.length : Int)) = false := decide_eq_false (by omega)
      go_wp2_with fail
      go_ret
      have e : k.names.take j = k.names := List.take_of_length_le (by omega)
      have := HOW.out
      rw [e] at this
      exact ⟨_, rfl, this, HB.out⟩
theorem Close_none (h : SC w tag n₀ s A cap []) : Calls Tryz.prog 16 #[.pointer (some ⟨s, 0, none⟩)] w fun e w' => e = .returned (.tuple #[.slice none 0 0, .int .i64 6]) ∧ w' = w := by
  have H := Lib.hid h
  clear h
  go_enter Tryz.func16, Tryz.ntmps16
  go_wp2_with (go_at_call 35; refine (hindered_any H.out).mono ?_; rintro e w' ⟨rfl, rfl⟩)
  go_ret2
  exact ⟨rfl, rfl⟩
/-- What Close tells, and how it leaves the scope. -/
def ClosePost (w : World) (tag : Nat → Tag) (n₀ s : Nat) (xs : List Bk) (k : Bk) (e : Ending) (w' : World) : Prop :=
  ∃ v A' cap', e = .returned (.tuple #[v, .int .i64 0]) ∧ w'.ownsRow w.heap.size 9 1 v (left k.names).length (strs (left k.names)) ∧ SC w' tag n₀ s A' cap' xs ∧ Turns w tag w' tag
theorem Close_any {k : Bk} {xs : List Bk} (h : SC w tag n₀ s A cap (xs ++ [k])) (hl : xs.length ≤ 1000000) (hk : k.names.length ≤ 1000000) :
    Calls Tryz.prog 16 #[.pointer (some ⟨s, 0, none⟩)] w (ClosePost w tag n₀ s xs k) := by
  obtain ⟨g, rfl⟩ := h.row_some
  have c0 := h.c0
  have H := Lib.hid h
  have hne : xs ++ [k] ≠ [] := by simp
  have HI := hindered_any h
  rw [if_neg hne] at HI
  have HI := Lib.hid HI
  have HP := Lib.hid (Scp.pop h)
  have HL := Lib.hid (And.intro hl hk)
  clear h hne hl hk
  obtain ⟨W, hW⟩ : ∃ W, W = (w.setCell ⟨g, xs.length, none⟩ (.pointer none)).setCell ⟨s, 0, none⟩ (.slice (some ⟨g, 0, none⟩) xs.length cap) := ⟨_, rfl⟩
  rw [← hW] at HP
  have HW := Lib.hid hW
  clear hW
  go_enter Tryz.func16, Tryz.ntmps16
  go_wp2_with (first
    | (go_at_call 35; refine HI.out.mono ?_; rintro e w' ⟨rfl, rfl⟩)
    | (go_at_call 36; refine (pop_any H.out HL.out.1).mono ?_; rintro e w' ⟨rfl, hw'⟩; have hh := hw'.trans HW.out.symm; clear hw'; subst hh)
    | (go_at_call 37; refine (unused_any HP.out.2.1 HL.out.2).mono ?_; rintro e w' ⟨v, rfl, hv⟩; have HV := Lib.hid hv; clear hv))
  go_ret2
  refine ⟨_, _, _, rfl, HV.out.1.mono (by have := HP.out.2.2.size; omega), HP.out.1.keep HV.out.2.size (fun b hb => HV.out.2.block b (HP.out.1.lt b hb).2), HP.out.2.2.trans (Turns.of_below HV.out.2)⟩
end Go.Proofs.YtfpjleabmemieaaGreat
