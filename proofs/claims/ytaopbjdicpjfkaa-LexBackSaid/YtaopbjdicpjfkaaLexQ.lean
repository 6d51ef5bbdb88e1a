/- The law's alike. -/
import Derived.Test.YtaopbjdicpjfkaaLexP
set_option maxRecDepth 100000
namespace Go.Proofs.Ytaopbjdicpjfkaa
open Go.Instr Go.RowKit LexT
set_option linter.unusedVariables false
set_option maxHeartbeats 4000000 in
theorem alike_yes (ts us : List Tok) (ao bo : Option Addr) (c d : Nat) (w : World) (h1 : ToksAt w ao c ts) (h2 : ToksAt w bo d us) (hal : alikeB ts us) :
    Calls Try.prog 7 #[.slice ao ts.length c, .slice bo us.length d] w fun e w' => e = .returned (.bool true) ∧ Below w.heap.size w w' := by
  have hlen : ts.length = us.length := by
    have := congrArg List.length hal
    simpa using this
  have H1 := Lib.hid h1
  have H2 := Lib.hid h2
  have hcl := h1.len
  have hcc := h1.cap
  have hdl := h2.len
  have hdc := h2.cap
  unfold maxLen at hcc hdc
  have HAL := Lib.hid hal
  have hne : ((ts.length : Int) != us.length) = false := by simp [hlen]
  have HL := Lib.hid hlen
  clear h1 h2 hal hlen
  go_enter Try.func7, Try.ntmps7
  go_wp2_with fail
  go_loopg [5] ts.length (fun g v5 wr => ∃ k : Nat, k ≤ ts.length ∧ g = ts.length - k ∧ v5 = .int .i64 (k : Int) ∧ Below w.heap.size w wr)
  case atStart => exact ⟨0, by omega, rfl, rfl, Below.refl _ _⟩
  case round =>
    obtain ⟨k, hk, hgk, rfl, hb⟩ := hrel
    have HGK := Lib.hid hgk
    have HB := Lib.hid hb
    clear hgk hb
    by_cases hlt : k < ts.length
    · obtain ⟨t, ht⟩ : ∃ t, ts[k]? = some t := ⟨_, List.getElem?_eq_getElem hlt⟩
      have hku : k < us.length := by have := HL.out; omega
      obtain ⟨u, hu⟩ : ∃ u, us[k]? = some u := ⟨_, List.getElem?_eq_getElem hku⟩
      obtain ⟨g, hg, hgl, c0, c1, c2⟩ := (H1.out.under HB.out).at_ k t ht
      obtain ⟨g', hg', hgl', d0, d1, d2⟩ := (H2.out.under HB.out).at_ k u hu
      subst hg hg'
      have e : (t.kind, t.text) = (u.kind, u.text) := by
        have h3 : (ts.map fun t => (t.kind, t.text))[k]? = some (t.kind, t.text) := by simp [ht]
        have h4 : (us.map fun t => (t.kind, t.text))[k]? = some (u.kind, u.text) := by simp [hu]
        have h5 := HAL.out
        unfold alikeB at h5
        rw [h5, h4] at h3
        exact (Option.some.inj h3).symm
      injection e with e1 e2
      have n1 : ((t.kind : Int) != u.kind) = false := by simp [e1]
      have n2 : ((mkS t.text).toList == (mkS u.text).toList) = true := by simp [e2]
      have hki : (k : Int) < (ts.length : Int) := by omega
      have hki2 : (k : Int) < (us.length : Int) := by omega
      have hk0 : (0 : Int) ≤ (k : Int) := by omega
      clear ht hu e1 e2
      generalize mkS t.text = x at *
      generalize mkS u.text = y at *
      go_wp2_with fail
      go_quiet (fail)
      go_wp2_with fail
      go_roundg (ts.length - (k + 1))
      case rel => exact ⟨k + 1, by omega, rfl, by go_num, HB.out.trans ((drawn_below _ _).mono HB.out.size)⟩
      case measure => rw [HGK.out]; omega
    · go_wp2_with fail
      go_ret
      exact ⟨rfl, HB.out⟩
end Go.Proofs.Ytaopbjdicpjfkaa
