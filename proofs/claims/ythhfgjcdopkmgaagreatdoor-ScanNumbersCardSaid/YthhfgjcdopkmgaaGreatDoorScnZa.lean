/- Tokens in memory; the law's texts, fault, awake. -/
import Derived.Test.YthhfgjcdopkmgaaGreatDoorScnX
set_option maxRecDepth 100000
namespace ScnT
open Go Go.RowKit
set_option linter.unusedVariables false
/-- Tokens that lie in memory. -/
structure ToksAt (w : World) (ao : Option Addr) (c : Nat) (ts : List Tok) : Prop where
  len : ts.length ≤ c
  cap : c ≤ maxLen
  at_ : ∀ (i : Nat) (t : Tok), ts[i]? = some t → ∃ g, ao = some ⟨g, 0, none⟩ ∧ g < w.heap.size ∧ w.cell? ⟨g, i * 3, none⟩ = some (.int .u8 (t.kind : Int)) ∧ w.cell? ⟨g, i * 3 + 1, none⟩ = some (.string (mkS t.text)) ∧ w.cell? ⟨g, i * 3 + 2, none⟩ = some (.int .i64 (t.place : Int))
theorem ToksAt.under {w w' : World} {ao : Option Addr} {c : Nat} {ts : List Tok} (h : ToksAt w ao c ts) (hb : Below w.heap.size w w') : ToksAt w' ao c ts := by
  refine ⟨h.len, h.cap, fun i t hi => ?_⟩
  obtain ⟨g, h1, h2, h3, h4, h5⟩ := h.at_ i t hi
  exact ⟨g, h1, Nat.lt_of_lt_of_le h2 hb.size, (hb.cell (p := ⟨g, i * 3, none⟩) h2).trans h3, (hb.cell (p := ⟨g, i * 3 + 1, none⟩) h2).trans h4, (hb.cell (p := ⟨g, i * 3 + 2, none⟩) h2).trans h5⟩
theorem toks_of_own {w : World} {base : Nat} {e : TypeId} {v : Value} {ts : List Tok} (h : w.ownsRow base e 3 v ts.length (tcells ts)) : ∃ ao c, v = .slice ao ts.length c ∧ ToksAt w ao c ts := by
  rcases h.2 with ⟨hv, h0⟩ | ⟨g, cap, cur, hv, hb, hg, hnc, hcm, _⟩
  · have : ts = [] := List.eq_nil_of_length_eq_zero h0
    subst this
    exact ⟨none, 0, hv, by simp, by simp [maxLen], by simp⟩
  · subst hv
    refine ⟨_, _, rfl, hnc, hcm, fun i t hi => ⟨g, rfl, (Array.getElem?_eq_some_iff.1 hg).1, ?_⟩⟩
    have key : ∀ (j : Nat) (u : Value), (tcs t)[j]? = some u → w.cell? ⟨g, i * 3 + j, none⟩ = some u := by
      intro j u hj
      have := h.cells (g := g) rfl (i * 3 + j) u (tcells_at ts i j t u hi hj)
      have hadd : (⟨g, 0, none⟩ : Addr).add (i * 3 + j) = ⟨g, i * 3 + j, none⟩ := by unfold Addr.add; split <;> simp_all
      rw [hadd] at this
      exact this
    exact ⟨by simpa using key 0 _ rfl, key 1 _ rfl, key 2 _ rfl⟩
def spellsB (ts : List Tok) : Bs := ts.flatMap fun t => t.text ++ [32]
theorem spells_snoc (ts : List Tok) (k : Nat) (t : Tok) (h : ts[k]? = some t) : spellsB (ts.take (k + 1)) = spellsB (ts.take k) ++ t.text ++ [32] := by
  unfold spellsB
  rw [List.take_add_one, h]
  simp
theorem spells_le (ts : List Tok) (k : Nat) : (spellsB (ts.take k)).length ≤ (spellsB ts).length := by
  have : spellsB ts = spellsB (ts.take k) ++ spellsB (ts.drop k) := by
    unfold spellsB
    rw [← List.flatMap_append, List.take_append_drop]
  rw [this]; simp
theorem mkS_append (a b : Bs) : mkS a ++ mkS b = mkS (a ++ b) := by
  apply ByteArray.ext
  simp [mkS, ByteArray.data_append]
end ScnT
namespace Go.Proofs.YthhfgjcdopkmgaaGreatDoor
open Go.Instr Go.RowKit ScnT
set_option linter.unusedVariables false
set_option maxHeartbeats 1000000 in
theorem texts_any (s : ByteArray) (w : World) (hm : s.size ≤ maxLen) (ts : List Tok) (hts : tokensT s.data.toList = .ok ts) (hl : (spellsB ts).length ≤ 1000) :
    Calls Tryz.prog 23 #[.string s] w fun e w' => e = .returned (.string (mkS (spellsB ts))) ∧ Below w.heap.size w w' := by
  have HT := Lib.hid (Tokens_any s w hm)
  have HTS := Lib.hid hts
  clear hm hts
  go_enter Tryz.func23, Tryz.ntmps23
  go_wp2_with fail
  refine HT.out.mono ?_
  rintro e w1 (⟨out, tv, hR, rfl, hown, hout, hb⟩ | ⟨c, q, hR, rfl, hb⟩)
  · obtain rfl : ts = out := by have := HTS.out; rw [hR] at this; injection this with this; exact this.symm
    obtain ⟨ao, c, rfl, htk⟩ := toks_of_own hown
    have HK := Lib.hid htk
    have HB := Lib.hid hb
    have hcc := htk.cap
    unfold maxLen at hcc
    have hcl := htk.len
    clear hR hown htk hb
    go_wp2_with fail
    have HB1 : Hid (Below w1.heap.size w1 (w1.alloc (.cells #[.int .i64 0, .int .i64 0] 32))) := (Below.refl _ _).alloc (Nat.le_refl _) _
    have k0 : (w1.alloc (.cells #[.int .i64 0, .int .i64 0] 32)).cell? ⟨w1.heap.size, 0, none⟩ = some (.int .i64 0) := by simp [go_sem]
    have HK2 := Lib.hid (HK.out.under HB1.out)
    have HBB : Hid (Below w.heap.size w (w1.alloc (.cells #[.int .i64 0, .int .i64 0] 32))) := HB.out.trans (HB1.out.mono HB.out.size)
    obtain ⟨n1, hn1⟩ : ∃ n, w1.heap.size = n := ⟨_, rfl⟩
    rw [hn1] at k0 ⊢
    generalize w1.alloc (.cells #[.int .i64 0, .int .i64 0] 32) = W at *
    clear hn1 HB HB1 HK
    go_loopg [5, 6] ts.length (fun g v5 v6 wr => ∃ k : Nat, k ≤ ts.length ∧ g = ts.length - k ∧ v5 = .string (mkS (spellsB (ts.take k))) ∧ v6 = .int .i64 (k : Int) ∧ W = wr)
    case atStart => exact ⟨0, by omega, rfl, rfl, rfl, rfl⟩
    case round =>
      obtain ⟨k, hk, hgk, rfl, rfl, rfl⟩ := hrel
      have HGK := Lib.hid hgk
      clear hgk
      by_cases hlt : k < ts.length
      · obtain ⟨t, ht⟩ : ∃ t, ts[k]? = some t := ⟨_, List.getElem?_eq_getElem hlt⟩
        obtain ⟨g, hg, hgl, d0, d1, d2⟩ := HK2.out.at_ k t ht
        subst hg
        have hsp := spells_snoc ts k t ht
        have hle := spells_le ts (k + 1)
        rw [hsp] at hle
        simp only [List.length_append, List.length_cons, List.length_nil] at hle
        have HSP := Lib.hid hsp
        obtain ⟨x, hx⟩ : ∃ x, mkS (spellsB (ts.take k)) = x := ⟨_, rfl⟩
        obtain ⟨y, hy⟩ : ∃ y, mkS t.text = y := ⟨_, rfl⟩
        have hxs : x.size ≤ 1000 := by rw [← hx]; simp; omega
        have hys : y.size ≤ 1000 := by rw [← hy]; simp; omega
        rw [hy] at d1
        rw [hx]
        have HX := Lib.hid hx
        have HY := Lib.hid hy
        clear ht hsp hle hx hy
        have HE : Hid (x ++ y ++ ⟨#[32]⟩ = mkS (spellsB (ts.take (k + 1)))) := by
          show _ = _
          rw [← HX.out, ← HY.out, HSP.out, mkS_append, show (⟨#[32]⟩ : ByteArray) = mkS [32] from rfl, mkS_append]
        go_wp2_with fail
        go_roundg (ts.length - (k + 1))
        case rel => exact ⟨k + 1, by omega, rfl, by rw [HE.out], by go_num, rfl⟩
        case measure => rw [HGK.out]; omega
      · have HE : Hid (spellsB (ts.take k) = spellsB ts) := by
          show _ = _
          rw [List.take_of_length_le (by omega)]
        go_wp2_with fail
        go_ret
        exact ⟨by rw [← HE.out]; rfl, HBB.out⟩
  · exact absurd (hR.symm.trans HTS.out) (by simp)
set_option maxHeartbeats 1000000 in
theorem fault_any (s : ByteArray) (w : World) (hm : s.size ≤ maxLen) (c q : Nat) (hts : tokensT s.data.toList = .error (c, q)) :
    Calls Tryz.prog 24 #[.string s, .int .i64 (c : Int), .int .i64 (q : Int)] w fun e w' => e = .returned (.bool true) ∧ Below w.heap.size w w' := by
  have HT := Lib.hid (Tokens_any s w hm)
  have HTS := Lib.hid hts
  clear hm hts
  go_enter Tryz.func24, Tryz.ntmps24
  go_wp2_with fail
  refine HT.out.mono ?_
  rintro e w1 (⟨out, tv, hR, rfl, hown, hout, hb⟩ | ⟨c', q', hR, rfl, hb⟩)
  · exact absurd (hR.symm.trans HTS.out) (by simp)
  · have he := hR.symm.trans HTS.out
    injection he with he
    injection he with he1 he2
    subst he1 he2
    have HB := Lib.hid hb
    clear hR hb
    go_wp2_with fail
    go_ret
    exact ⟨rfl, (HB.out).alloc HB.out.size _⟩
theorem told_0 : (match tokensT [120, 32, 58, 61, 32, 49, 46, 53, 10, 125] with | .ok ts => spellsB ts | .error _ => []) = [120, 32, 58, 61, 32, 49, 46, 53, 32, 59, 32, 125, 32, 59, 32, 32] := by decide
theorem isOk_0 : (match tokensT [120, 32, 58, 61, 32, 49, 46, 53, 10, 125] with | .ok _ => true | .error _ => false) = true := by decide
theorem texts_0 (w : World) : Calls Tryz.prog 23 #[.string ⟨#[120, 32, 58, 61, 32, 49, 46, 53, 10, 125]⟩] w fun e w' => e = .returned (.string ⟨#[120, 32, 58, 61, 32, 49, 46, 53, 32, 59, 32, 125, 32, 59, 32, 32]⟩) ∧ Below w.heap.size w w' := by
  have h1 := told_0
  have h2 := isOk_0
  cases h : tokensT [120, 32, 58, 61, 32, 49, 46, 53, 10, 125] with
  | error x => rw [h] at h2; cases h2
  | ok ts =>
    rw [h] at h1
    simp only at h1
    have := texts_any ⟨#[120, 32, 58, 61, 32, 49, 46, 53, 10, 125]⟩ w (by decide) ts h (by rw [h1]; decide)
    rw [h1] at this
    exact this
theorem told_1 : (match tokensT [34, 97, 92, 120, 52, 49, 34] with | .ok ts => spellsB ts | .error _ => []) = [97, 65, 32, 59, 32, 32] := by decide
theorem isOk_1 : (match tokensT [34, 97, 92, 120, 52, 49, 34] with | .ok _ => true | .error _ => false) = true := by decide
theorem texts_1 (w : World) : Calls Tryz.prog 23 #[.string ⟨#[34, 97, 92, 120, 52, 49, 34]⟩] w fun e w' => e = .returned (.string ⟨#[97, 65, 32, 59, 32, 32]⟩) ∧ Below w.heap.size w w' := by
  have h1 := told_1
  have h2 := isOk_1
  cases h : tokensT [34, 97, 92, 120, 52, 49, 34] with
  | error x => rw [h] at h2; cases h2
  | ok ts =>
    rw [h] at h1
    simp only at h1
    have := texts_any ⟨#[34, 97, 92, 120, 52, 49, 34]⟩ w (by decide) ts h (by rw [h1]; decide)
    rw [h1] at this
    exact this
theorem told_2 : (match tokensT [36, 36, 32, 61, 32, 36, 49, 50] with | .ok ts => spellsB ts | .error _ => []) = [36, 32, 61, 32, 49, 50, 32, 59, 32, 32] := by decide
theorem isOk_2 : (match tokensT [36, 36, 32, 61, 32, 36, 49, 50] with | .ok _ => true | .error _ => false) = true := by decide
theorem texts_2 (w : World) : Calls Tryz.prog 23 #[.string ⟨#[36, 36, 32, 61, 32, 36, 49, 50]⟩] w fun e w' => e = .returned (.string ⟨#[36, 32, 61, 32, 49, 50, 32, 59, 32, 32]⟩) ∧ Below w.heap.size w w' := by
  have h1 := told_2
  have h2 := isOk_2
  cases h : tokensT [36, 36, 32, 61, 32, 36, 49, 50] with
  | error x => rw [h] at h2; cases h2
  | ok ts =>
    rw [h] at h1
    simp only at h1
    have := texts_any ⟨#[36, 36, 32, 61, 32, 36, 49, 50]⟩ w (by decide) ts h (by rw [h1]; decide)
    rw [h1] at this
    exact this
theorem bad_0 : (match tokensT [48, 48, 55] with | .error x => x | .ok _ => (0, 0)) = (101, 0) := by decide
theorem isBad_0 : (match tokensT [48, 48, 55] with | .ok _ => true | .error _ => false) = false := by decide
theorem fault_0 (w : World) : Calls Tryz.prog 24 #[.string ⟨#[48, 48, 55]⟩, .int .i64 101, .int .i64 0] w fun e w' => e = .returned (.bool true) ∧ Below w.heap.size w w' := by
  have h1 := bad_0
  have h2 := isBad_0
  cases h : tokensT [48, 48, 55] with
  | ok ts => rw [h] at h2; cases h2
  | error x =>
    rw [h] at h1
    simp only at h1
    subst h1
    exact fault_any ⟨#[48, 48, 55]⟩ w (by decide) 101 0 h
theorem bad_1 : (match tokensT [97, 32, 60, 45, 32, 98] with | .error x => x | .ok _ => (0, 0)) = (101, 2) := by decide
theorem isBad_1 : (match tokensT [97, 32, 60, 45, 32, 98] with | .ok _ => true | .error _ => false) = false := by decide
theorem fault_1 (w : World) : Calls Tryz.prog 24 #[.string ⟨#[97, 32, 60, 45, 32, 98]⟩, .int .i64 101, .int .i64 2] w fun e w' => e = .returned (.bool true) ∧ Below w.heap.size w w' := by
  have h1 := bad_1
  have h2 := isBad_1
  cases h : tokensT [97, 32, 60, 45, 32, 98] with
  | ok ts => rw [h] at h2; cases h2
  | error x =>
    rw [h] at h1
    simp only at h1
    subst h1
    exact fault_any ⟨#[97, 32, 60, 45, 32, 98]⟩ w (by decide) 101 2 h
theorem bad_2 : (match tokensT [103, 111] with | .error x => x | .ok _ => (0, 0)) = (101, 0) := by decide
theorem isBad_2 : (match tokensT [103, 111] with | .ok _ => true | .error _ => false) = false := by decide
theorem fault_2 (w : World) : Calls Tryz.prog 24 #[.string ⟨#[103, 111]⟩, .int .i64 101, .int .i64 0] w fun e w' => e = .returned (.bool true) ∧ Below w.heap.size w w' := by
  have h1 := bad_2
  have h2 := isBad_2
  cases h : tokensT [103, 111] with
  | ok ts => rw [h] at h2; cases h2
  | error x =>
    rw [h] at h1
    simp only at h1
    subst h1
    exact fault_any ⟨#[103, 111]⟩ w (by decide) 101 0 h
theorem bad_3 : (match tokensT [97, 32, 38, 32, 98] with | .error x => x | .ok _ => (0, 0)) = (100, 2) := by decide
theorem isBad_3 : (match tokensT [97, 32, 38, 32, 98] with | .ok _ => true | .error _ => false) = false := by decide
theorem fault_3 (w : World) : Calls Tryz.prog 24 #[.string ⟨#[97, 32, 38, 32, 98]⟩, .int .i64 100, .int .i64 2] w fun e w' => e = .returned (.bool true) ∧ Below w.heap.size w w' := by
  have h1 := bad_3
  have h2 := isBad_3
  cases h : tokensT [97, 32, 38, 32, 98] with
  | ok ts => rw [h] at h2; cases h2
  | error x =>
    rw [h] at h1
    simp only at h1
    subst h1
    exact fault_any ⟨#[97, 32, 38, 32, 98]⟩ w (by decide) 100 2 h

set_option maxHeartbeats 1000000 in
theorem awake_any (w : World) : Calls Tryz.prog 8 #[] w fun e w' => e = .returned (.bool true) ∧ Below w.heap.size w w' := by
  go_enter Tryz.func8, Tryz.ntmps8
  go_wp2_with fail
  refine (texts_0 w).mono ?_
  rintro e w1 ⟨rfl, hb1⟩
  have HB1 := Lib.hid hb1
  clear hb1
  go_wp2_with fail
  refine (texts_1 w1).mono ?_
  rintro e w2 ⟨rfl, hb2⟩
  have HB2 : Hid (Below w.heap.size w w2) := HB1.out.trans (hb2.mono HB1.out.size)
  clear hb2 HB1
  go_wp2_with fail
  refine (fault_0 w2).mono ?_
  rintro e w3 ⟨rfl, hb3⟩
  have HB3 : Hid (Below w.heap.size w w3) := HB2.out.trans (hb3.mono HB2.out.size)
  clear hb3 HB2
  go_wp2_with fail
  refine (fault_1 w3).mono ?_
  rintro e w4 ⟨rfl, hb4⟩
  have HB4 : Hid (Below w.heap.size w w4) := HB3.out.trans (hb4.mono HB3.out.size)
  clear hb4 HB3
  go_wp2_with fail
  refine (texts_2 w4).mono ?_
  rintro e w5 ⟨rfl, hb5⟩
  have HB5 : Hid (Below w.heap.size w w5) := HB4.out.trans (hb5.mono HB4.out.size)
  clear hb5 HB4
  go_wp2_with fail
  refine (fault_2 w5).mono ?_
  rintro e w6 ⟨rfl, hb6⟩
  have HB6 : Hid (Below w.heap.size w w6) := HB5.out.trans (hb6.mono HB5.out.size)
  clear hb6 HB5
  go_wp2_with fail
  refine (fault_3 w6).mono ?_
  rintro e w7 ⟨rfl, hb7⟩
  have HB7 : Hid (Below w.heap.size w w7) := HB6.out.trans (hb7.mono HB6.out.size)
  clear hb7 HB6
  go_wp2_with fail
  go_ret
  exact ⟨rfl, HB7.out⟩
end Go.Proofs.YthhfgjcdopkmgaaGreatDoor
