/- Deep, hindered, Open, innermost, pop of a scope that New made. -/
import Derived.Test.YtfpjleabmemieaaGreatScoC
import Derived.Test.YtfpjleabmemieaaGreatScoCa
set_option maxRecDepth 100000
namespace Go.Proofs.YtfpjleabmemieaaGreat
open Go.Instr Go.RowKit ScoT
set_option linter.unusedVariables false
variable {w : World} {tag : Nat → Tag} {n₀ s : Nat} {A : Option Addr} {cap : Nat} {bs : List Bk}
theorem Deep_any (h : SC w tag n₀ s A cap bs) : Calls Tryz.prog 11 #[.pointer (some ⟨s, 0, none⟩)] w fun e w' => e = .returned (.int .i64 bs.length) ∧ w' = w := by
  have c0 := h.c0
  have H := Lib.hid h
  clear h
  go_enter Tryz.func11, Tryz.ntmps11
  go_wp2_with (go_at_call 30; refine (isMade_yes s _ H.out.c1).mono ?_; rintro e w' ⟨rfl, rfl⟩)
  go_ret
  exact ⟨rfl, rfl⟩
theorem hindered_any (h : SC w tag n₀ s A cap bs) : Calls Tryz.prog 35 #[.pointer (some ⟨s, 0, none⟩)] w fun e w' => e = .returned (.int .i64 (if bs = [] then 6 else 0)) ∧ w' = w := by
  have H := Lib.hid h
  by_cases hb : bs = []
  · have t1 : ((bs.length : Int) == 0) = true := by rw [hb]; rfl
    rw [if_pos hb]
    clear h hb
    go_enter Tryz.func35, Tryz.ntmps35
    go_wp2_with (first
      | (go_at_call 30; refine (isMade_yes s _ H.out.c1).mono ?_; rintro e w' ⟨rfl, rfl⟩)
      | (go_at_call 11; refine (Deep_any H.out).mono ?_; rintro e w' ⟨rfl, rfl⟩))
    go_ret
    exact ⟨rfl, rfl⟩
  · have t1 : ((bs.length : Int) == 0) = false := by
      have : bs.length ≠ 0 := fun e => hb (List.eq_nil_of_length_eq_zero e)
      rw [← Bool.not_eq_true]; simp; exact hb
    rw [if_neg hb]
    clear h hb
    go_enter Tryz.func35, Tryz.ntmps35
    go_wp2_with (first
      | (go_at_call 30; refine (isMade_yes s _ H.out.c1).mono ?_; rintro e w' ⟨rfl, rfl⟩)
      | (go_at_call 11; refine (Deep_any H.out).mono ?_; rintro e w' ⟨rfl, rfl⟩))
    go_ret
    exact ⟨rfl, rfl⟩
theorem Tryz.infoPb : (Tryz.prog.info? 70).map (fun i => (i.zero, i.size, i.bytes)) = some (some (.pointer none), 1, 8) := by kernel_rfl
theorem Tryz.infoStr : (Tryz.prog.info? 9).map (fun i => (i.zero, i.size, i.bytes)) = some (some (.string ⟨#[]⟩), 1, 16) := by kernel_rfl
def PushPost (w : World) (tag : Nat → Tag) (n₀ s : Nat) (bs : List Bk) (e : Ending) (w' : World) : Prop :=
  e = .returned (.tuple #[]) ∧ ∃ A' cap' tag' bb mb, SC w' tag' n₀ s A' cap' (bs ++ [⟨bb, .slice none 0 0, mb, []⟩]) ∧ Turns w tag w' tag'
theorem push_any (h : SC w tag n₀ s A cap bs) (hl : bs.length ≤ 1000000) : Calls Tryz.prog 38 #[.pointer (some ⟨s, 0, none⟩)] w (PushPost w tag n₀ s bs) := by
  obtain ⟨i0, hi, hz0, hz1, hz2⟩ := info_parts Tryz.infoPb
  have HI := Lib.hid hi
  have HZ := Lib.hid (And.intro hz0 (And.intro hz1 hz2))
  have HL := Lib.hid hl
  clear hi hz0 hz1 hz2 hl
  have c0 := h.c0
  have f0 := h.fr 0
  have H := Lib.hid h
  clear h
  have hmm := @run_makeMap Tryz.prog
  go_enter Tryz.func38, Tryz.ntmps38
  go_wp2_with (at_builtin; refine wpList_append_far rfl (.tmp 5) (.tmp 9) 51 rfl n₀ 70 i0 _ 1 8 Tryz.underlying51 HI.out HZ.out.1 HZ.out.2.1 HZ.out.2.2 rfl (by decide) _ bs.length _ rfl (((H.out.own.alloc _).alloc _).alloc _) (some ⟨w.heap.size + 1 + 1, 0, none⟩) 1 1 rfl (fun e => by cases e) [.pointer (some ⟨w.heap.size + 1, 0, none⟩)] rfl ?c1 ?c2 ?c3 ?c4 ?c5 ?next)
  case c1 =>
    intro ad had
    cases had
    have := new_cells ((w.alloc (.map #[] 0)).alloc (.cells #[.slice none 0 0, .map (some w.heap.size)] 115)) [.pointer (some ⟨w.heap.size + 1, 0, none⟩)] 70
    simpa using this
  case c2 => intro u hu; rw [List.mem_singleton.1 hu]; rfl
  case c3 => have := HL.out; unfold maxLen; omega
  case c4 => have := HL.out; omega
  case c5 => have := H.out.n0_le; simp; omega
  case next =>
    intro v' w4 ho hg hf
    have HP := Lib.hid (Scp.push H.out 115 ho hg (by simpa using hf))
    have e := H.out.s_far (((((Below.refl _ w).alloc (Nat.le_refl _) (.map #[] 0)).alloc (by simp) (.cells #[.slice none 0 0, .map (some w.heap.size)] 115)).alloc (by simp; omega) (.cells #[.pointer (some ⟨w.heap.size + 1, 0, none⟩)] 70))) hg
    have d0 : w4.cell? ⟨s, 0, none⟩ = some (.slice A bs.length cap) := (World.cell?_of_block e).trans c0
    have df : w4.frozen? ⟨s, 0, none⟩ = false := (World.frozen?_of_block (a := ⟨s, 0, none⟩) e).trans f0
    obtain ⟨g, c, rfl⟩ := own_slice ho (by omega)
    clear ho hg hf e c0 f0 hmm
    go_wp2_with fail
    go_end0
    obtain ⟨A', cap', tag', h1, h2⟩ := HP.out
    exact ⟨rfl, A', cap', tag', _, _, h1, h2⟩
theorem Open_any (h : SC w tag n₀ s A cap bs) (hl : bs.length ≤ 1000000) : Calls Tryz.prog 19 #[.pointer (some ⟨s, 0, none⟩)] w (PushPost w tag n₀ s bs) := by
  have c0 := h.c0
  have H := Lib.hid h
  have HL := Lib.hid hl
  clear h hl
  go_enter Tryz.func19, Tryz.ntmps19
  go_wp2_with (first
      | (go_at_call 30; refine (isMade_yes s _ H.out.c1).mono ?_; rintro e w' ⟨rfl, rfl⟩)
      | (go_at_call 38; refine (push_any H.out HL.out).mono ?_; rintro e w' ⟨rfl, hp⟩; have HP := Lib.hid hp; clear hp))
  go_end0
  exact ⟨rfl, HP.out⟩
theorem innermost_any {g n c : Nat} {k : Bk} {xs : List Bk} (hc : w.cell? ⟨g, xs.length, none⟩ = some (.pointer (some ⟨k.loc, 0, none⟩))) (hl : xs.length ≤ 1000000) (hn : n = xs.length + 1) :
    Calls Tryz.prog 39 #[.slice (some ⟨g, 0, none⟩) n c] w fun e w' => e = .returned (.pointer (some ⟨k.loc, 0, none⟩)) ∧ w' = w := by
  subst hn
  have e0 : IntKind.i64.wrap (((xs.length + 1 : Nat) : Int) - 1) = (xs.length : Int) := by rw [IntWalk.i64_in _ (by omega)]; omega
  go_enter Tryz.func39, Tryz.ntmps39
  go_wp2_with fail
  go_ret
  exact ⟨rfl, rfl⟩
end Go.Proofs.YtfpjleabmemieaaGreat
