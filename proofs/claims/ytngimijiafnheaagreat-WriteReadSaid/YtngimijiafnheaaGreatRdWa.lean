/- Parts of rows; lists of texts that are the same. -/
import Derived.Test.YtngimijiafnheaaGreatRdIb
import Derived.Deep.CutRange
set_option maxRecDepth 100000
set_option linter.unusedSimpArgs false
namespace LexT
open Go Go.RowKit
set_option linter.unusedVariables false
theorem AtL.split {w : World} : ∀ (cs : List Cell) (S : List Nat) (xs : List Value) (m : Nat), AtL w cs S xs → ∃ S1 S2, S = S1 ++ S2 ∧ AtL w (cs.take m) S1 (xs.take m) ∧ AtL w (cs.drop m) S2 (xs.drop m)
  | [], S, xs, m, h => by
    have h0 := h
    unfold AtL at h
    obtain ⟨rfl, rfl⟩ := h
    exact ⟨[], [], rfl, by simpa using AtL.nil w, by simpa using AtL.nil w⟩
  | c :: cs, S, xs, 0, h => ⟨[], S, rfl, by simpa using AtL.nil w, by simpa using h⟩
  | c :: cs, S, xs, m + 1, h => by
    unfold AtL at h
    obtain ⟨S1, S2, x, xs', rfl, rfl, h3, h4⟩ := h
    obtain ⟨S3, S4, rfl, h5, h6⟩ := AtL.split cs S2 xs' m h4
    exact ⟨S1 ++ S3, S4, by simp, by simpa using AtL.cons h3 h5, by simpa using h6⟩
theorem At.elem {w : World} {T : TypeId} {k : Nat} {cs : List Cell} {S : List Nat} {ao : Option Addr} {n c : Nat} (h : At w (.row T k cs) S (.slice ao n c)) (i : Nat) (hi : i < n) :
    ∃ g xs' Si, ao = some ⟨g, 0, none⟩ ∧ n ≤ c ∧ g < w.heap.size ∧ AtL w ((cs.drop (i * k)).take k) Si xs' ∧ ∀ j u, xs'[j]? = some u → w.cell? ⟨g, i * k + j, none⟩ = some u := by
  unfold At at h
  obtain ⟨n', xs, S', h1, h2, rfl, h4⟩ := h
  rcases h2.2 with ⟨h0, _⟩ | ⟨g, cap, cur, hv, hb, hg, hc1, hc2, hc3, hc4⟩
  · injection h0 with _ e2 _; omega
  · injection hv with e1 e2 e3
    subst e1 e2 e3
    obtain ⟨S1, S2, _, _, h6⟩ := AtL.split _ _ _ (i * k) h4
    obtain ⟨S3, S4, _, h7, _⟩ := AtL.split _ _ _ k h6
    refine ⟨g, _, S3, rfl, hc1, (Array.getElem?_eq_some_iff.1 hg).1, h7, fun j u hj => ?_⟩
    have hadd : (⟨g, 0, none⟩ : Addr).add (i * k + j) = ⟨g, i * k + j, none⟩ := by unfold Addr.add; split <;> simp_all
    have := h2.cells (g := g) rfl (i * k + j) u (by
      rw [List.getElem?_take] at hj
      split at hj
      · rw [List.getElem?_drop] at hj; exact hj
      · cases hj)
    rwa [hadd] at this
theorem At.count {w : World} {T : TypeId} {k : Nat} {cs : List Cell} {S : List Nat} {ao : Option Addr} {n c : Nat} (h : At w (.row T k cs) S (.slice ao n c)) : cs.length = n * k := by
  unfold At at h
  obtain ⟨n', xs, S', h1, h2, rfl, h4⟩ := h
  rcases h2.2 with ⟨h0, h9⟩ | ⟨g, cap, cur, hv, _⟩
  · injection h0 with _ e2 _; rw [h1, e2, h9]
  · injection hv with _ e2 _; rw [h1, e2]
theorem At.small {w : World} {T : TypeId} {k : Nat} {cs : List Cell} {S : List Nat} {ao : Option Addr} {n c : Nat} (h : At w (.row T k cs) S (.slice ao n c)) : n ≤ maxLen := by
  unfold At at h
  obtain ⟨n', xs, S', h1, h2, rfl, h4⟩ := h
  rcases h2.2 with ⟨h0, h9⟩ | ⟨g, cap, cur, hv, hb, hg, hc1, hc2, _⟩
  · injection h0 with _ e2 _; rw [e2]; exact Nat.zero_le _
  · injection hv with _ e2 _; rw [e2]; omega
theorem flat_elem {α : Type} (f : α → List Cell) (k : Nat) (hf : ∀ x, (f x).length = k) : ∀ (l : List α) (i : Nat) (x : α), l[i]? = some x → ((l.flatMap f).drop (i * k)).take k = f x
  | [], i, x, h => by simp at h
  | y :: l, 0, x, h => by
    simp at h; subst h
    rw [Nat.zero_mul, List.drop_zero, List.flatMap_cons, ← hf y, List.take_left]
  | y :: l, i + 1, x, h => by
    rw [List.flatMap_cons, show (i + 1) * k = k + i * k by rw [Nat.add_mul]; omega, ← List.drop_drop]
    have hd : (f y ++ l.flatMap f).drop k = l.flatMap f := by rw [← hf y, List.drop_left]
    rw [hd]
    exact flat_elem f k hf l i x (by simpa using h)
theorem strs_flat (xs : List Bs) : xs.map strC = xs.flatMap fun s => [strC s] := by
  induction xs with
  | nil => rfl
  | cons x xs ih => simp [ih]
end LexT
namespace Go.Proofs.YtngimijiafnheaaGreat
open Go.Instr Go.RowKit LexT
set_option linter.unusedVariables false
set_option maxHeartbeats 2000000 in
theorem SameTexts_one (xs : List Bs) (a b : Option Addr) (n m ca cb : Nat) (S S' : List Nat) (w : World) (ha : At w (.row 9 1 (xs.map strC)) S (.slice a n ca)) (hb : At w (.row 9 1 (xs.map strC)) S' (.slice b m cb)) :
    Calls Tryz.prog 69 #[.slice a n ca, .slice b m cb] w fun e w' => e = .returned (.bool true) ∧ Below w.heap.size w w' := by
  have hn : xs.length = n := by have := ha.count; simpa using this
  have hm : xs.length = m := by have := hb.count; simpa using this
  have hl := ha.small
  subst hn
  subst hm
  unfold maxLen at hl
  have HA := Lib.hid (And.intro ha hb)
  clear ha hb
  have hll : (xs.length : Int) ≤ 9223372036854775807 := by omega
  clear hl
  go_enter Tryz.func69, Tryz.ntmps69
  go_wp2_with fail
  go_loopg [5] xs.length (fun g v wr => ∃ i : Nat, i ≤ xs.length ∧ g = xs.length - i ∧ v = .int .i64 i ∧ Below w.heap.size w wr)
  case atStart => exact ⟨0, by omega, rfl, rfl, Below.refl _ _⟩
  case round =>
    obtain ⟨i, hi, hgi, rfl, hbl⟩ := hrel
    have HB := Lib.hid hbl
    have HG := Lib.hid hgi
    clear hbl hgi
    by_cases hlt : i < xs.length
    · obtain ⟨x, hx⟩ : ∃ x, xs[i]? = some x := ⟨_, List.getElem?_eq_getElem hlt⟩
      have e1 : ((xs.map strC).drop (i * 1)).take 1 = [strC x] := by rw [strs_flat]; exact flat_elem _ 1 (fun _ => rfl) xs i x hx
      obtain ⟨ga, va, Sa, rfl, hna, hga, hva, hca⟩ := HA.out.1.elem i hlt
      obtain ⟨gb, vb, Sb, rfl, hnb, hgb, hvb, hcb⟩ := HA.out.2.elem i hlt
      rw [e1] at hva hvb
      have key : ∀ (v : List Value) (S : List Nat), AtL w [strC x] S v → v = [.string (mkS x)] := by
        intro v S h
        unfold AtL at h
        obtain ⟨S1, S2, y, ys, rfl, rfl, h1, h2⟩ := h
        unfold AtL at h2
        obtain ⟨rfl, rfl⟩ := h2
        unfold strC At at h1
        obtain ⟨rfl, _⟩ := h1
        rfl
      have hva' := key _ _ hva
      have hvb' := key _ _ hvb
      subst hva' hvb'
      have ka : wr.cell? ⟨ga, i, none⟩ = some (.string (mkS x)) := (HB.out.cell (p := ⟨ga, i, none⟩) hga).trans (by have := hca 0 _ rfl; simpa using this)
      have kb : wr.cell? ⟨gb, i, none⟩ = some (.string (mkS x)) := (HB.out.cell (p := ⟨gb, i, none⟩) hgb).trans (by have := hcb 0 _ rfl; simpa using this)
      have i1 : (i : Int) < (xs.length : Int) := by omega
      have i0 : (0 : Int) ≤ (i : Int) := by omega
      clear hca hcb hva hvb e1 hx
      go_wp2_with fail
      go_region
      all_goals
        go_wp2_with fail
        go_roundg (xs.length - (i + 1))
        case rel => exact ⟨i + 1, by omega, rfl, by go_num, HB.out.drew⟩
        case measure => rw [HG.out]; omega
    · have i1 : ¬ (i : Int) < (xs.length : Int) := by omega
      go_wp2_with fail
      go_ret
      exact ⟨rfl, HB.out⟩
end Go.Proofs.YtngimijiafnheaaGreat
