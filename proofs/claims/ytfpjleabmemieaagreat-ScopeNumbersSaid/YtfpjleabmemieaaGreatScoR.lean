/- slices.Clone of a row of types. -/
import Derived.Test.YtfpjleabmemieaaGreatScoQ
import Derived.Test.YtfpjleabmemieaaGreatScoP
import Derived.Lib.SliceRun
set_option maxRecDepth 100000
namespace ScoT
open Go Go.RowKit
set_option linter.unusedVariables false
theorem lies_news {w : World} {S : Nat → Prop} {A : Option Addr} {ts : List Ty} (h : Lies w S A ts) : ∀ ad, A = some ad → ∀ j u, (tcells ts)[j]? = some u → w.cell? (ad.add j) = some u := by
  intro ad hA j u hu
  have hl := tcells_length ts
  have hj : j < (tcells ts).length := (List.getElem?_eq_some_iff.1 hu).1
  obtain ⟨b, o, hA', hb, hc⟩ := h (by omega)
  rw [hA] at hA'
  injection hA' with hA'
  subst hA'
  obtain ⟨t, ht⟩ : ∃ t, ts[j / 3]? = some t := ⟨_, List.getElem?_eq_getElem (by omega)⟩
  have hc3 : t.cs.length = 3 := rfl
  obtain ⟨v, hv⟩ : ∃ v, t.cs[j % 3]? = some v := ⟨_, List.getElem?_eq_getElem (by rw [hc3]; omega)⟩
  have h1 := hc (j / 3) t ht (j % 3) v hv
  have h2 := tcells_at ts (j / 3) (j % 3) t v ht hv
  have e : j / 3 * 3 + j % 3 = j := by omega
  rw [e] at h2
  obtain rfl : v = u := by rw [hu] at h2; exact (Option.some.inj h2).symm
  have hadd : (⟨b, o, none⟩ : Addr).add j = ⟨b, o + j / 3 * 3 + j % 3, none⟩ := by unfold Addr.add; split <;> simp <;> omega
  rw [hadd]
  exact h1
/-- A row of the call's own that holds types: they lie there. -/
theorem row_cs {w : World} {lo : Nat} {T : TypeId} {g n c : Nat} {ts : List Ty} (h : w.ownsRow lo T 3 (.slice (some ⟨g, 0, none⟩) n c) n (tcells ts)) : ∀ (i : Nat) (u : Ty), ts[i]? = some u → CsAt w (g, i * 3) u.cs := by
  intro i u hi j v hv
  have := h.cells (g := g) rfl (i * 3 + j) v (tcells_at ts i j u v hi hv)
  have hadd : (⟨g, 0, none⟩ : Addr).add (i * 3 + j) = ⟨g, i * 3 + j, none⟩ := by unfold Addr.add; split <;> simp_all
  rwa [hadd] at this
theorem row_plain {w : World} {lo size : Nat} {T : TypeId} {g n c : Nat} {xs : List Value} (h : w.ownsRow lo T size (.slice (some ⟨g, 0, none⟩) n c) n xs) : Plain w g ∧ lo ≤ g ∧ g < w.heap.size := by
  have hl := h.lt g rfl
  rcases h.2 with ⟨h0, _⟩ | ⟨g', cap', cur, hv, _, hh, _⟩
  · cases h0
  · cases hv; exact ⟨⟨cur, T, hh⟩, hl.1, hl.2⟩
end ScoT
namespace Go.Proofs.YtfpjleabmemieaaGreat
open Go.Instr Go.RowKit ScoT
set_option linter.unusedVariables false
theorem slClone_any (ts : List Ty) (b o c : Nat) (w : World) (S : Nat → Prop) (h : Lies w S (some ⟨b, o, none⟩) ts) (hn : 0 < ts.length) (hl : ts.length ≤ 1000000) :
    Calls Tryz.prog 130 #[.slice (some ⟨b, o, none⟩) ts.length c] w fun e w' => ∃ g c', e = .returned (.slice (some ⟨g, 0, none⟩) ts.length c') ∧ w'.ownsRow w.heap.size 26 3 (.slice (some ⟨g, 0, none⟩) ts.length c') ts.length (tcells ts) ∧ Below w.heap.size w w' := by
  obtain ⟨i0, hi, hz0, hz1, hz2⟩ := info_parts Tryz.infoType
  have HI := Lib.hid hi
  have HZ := Lib.hid (And.intro hz0 (And.intro hz1 hz2))
  clear hi hz0 hz1 hz2
  have H := Lib.hid (lies_news h)
  have HL := Lib.hid (And.intro hn hl)
  clear h hn hl
  have q22 : ∀ (w : World) (a : Option Addr) (n c n' c' : Nat), (binOp .eql 24 (.slice a n c) (.slice none n' c')).run Tryz.prog w = .ok (.bool a.isNone) w := fun w a n c n' c' => Lib.run_eql_slice_nil w _ _ a n c n' c' Tryz.underlying24
  go_enter Tryz.func130, Tryz.ntmps130
  go_wp2_with (at_builtin; refine wpList_append_far rfl (.tmp 5) (.tmp 6) 24 rfl w.heap.size 26 i0 _ 3 48 Tryz.underlying24 HI.out HZ.out.1 HZ.out.2.1 HZ.out.2.2 rfl (by decide) _ 0 [] rfl (World.ownsRow_made w #[] 0 (Nat.le_refl _) (Nat.zero_le _) rfl) (some ⟨b, o, none⟩) ts.length c rfl (fun e => by cases e) (tcells ts) (tcells_length ts) ?c1 (tcells_one ts) ?c3 ?c4 ?c5 ?next)
  case c1 =>
    intro ad had j u hu
    have := H.out ad had j u hu
    rw [World.cell?_alloc_lt _ _ _ (World.block_lt_of_cell? _ _ this)]; exact this
  case c3 => have := HL.out.2; unfold maxLen; omega
  case c4 => have := HL.out.2; omega
  case c5 => simp
  case next =>
    intro v' w4 ho hg hf
    obtain ⟨g, c', rfl⟩ := own_slice ho HL.out.1
    have HG := Lib.hid (And.intro ho hg)
    clear ho hg hf
    go_wp2_with fail
    go_ret
    refine ⟨g, c', by simp, HG.out.1, ?_⟩
    exact ((Below.refl _ _).alloc (Nat.le_refl _) _).grown HG.out.2 (by simp) (fun k hk => by simp [Value.ownBlock] at hk; omega)
end Go.Proofs.YtfpjleabmemieaaGreat
