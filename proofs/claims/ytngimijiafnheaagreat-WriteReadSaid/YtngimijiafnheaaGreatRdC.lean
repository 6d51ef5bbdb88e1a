/- The reader's row of tokens, its small calls. -/
import Derived.Test.YtngimijiafnheaaGreatLexH
import Derived.Test.YtngimijiafnheaaGreatRdA
import Derived.Test.YtngimijiafnheaaGreatRdB
set_option maxRecDepth 100000
namespace LexT
open Go Go.RowKit
set_option linter.unusedVariables false
theorem containsS_mk (l : List Bs) (x : ByteArray) : Lib.containsS (l.map mkS) x = l.contains x.data.toList := by
  rw [Bool.eq_iff_iff, Lib.containsS_iff, List.contains_iff_mem, List.mem_map]
  constructor
  · rintro ⟨y, hy, rfl⟩; simpa using hy
  · intro h; exact ⟨_, h, mkS_of x⟩
/-- The tokens that were not read yet. -/
structure Rd (n : Nat) (w : World) (b : Nat) (l : List Tok) : Prop where
  lt : b < n
  le : n ≤ w.heap.size
  frz : w.frozen? ⟨b, 0, none⟩ = false
  ends : Fine l
  small : l.length ≤ 70000
  tok : ∃ g o c, g ≠ b ∧ g < n ∧ w.cell? ⟨b, 0, none⟩ = some (.slice (some ⟨g, o, none⟩) l.length c) ∧ l.length ≤ c ∧ c ≤ maxLen ∧
    ∀ (j : Nat) (t : Tok), l[j]? = some t → w.cell? ⟨g, o + j * 3, none⟩ = some (.int .u8 (t.kind : Int)) ∧ w.cell? ⟨g, o + j * 3 + 1, none⟩ = some (.string (mkS t.text)) ∧ w.cell? ⟨g, o + j * 3 + 2, none⟩ = some (.int .i64 (t.place : Int))
def tokV (t : Tok) : Value := .agg #[.int .u8 (t.kind : Int), .string (mkS t.text), .int .i64 (t.place : Int)]
theorem Rd.keep {n : Nat} {w w' : World} {b : Nat} {l : List Tok} (h : Rd n w b l) (hb : ∀ k, k < n → w'.heap[k]? = w.heap[k]?) (hs : n ≤ w'.heap.size) : Rd n w' b l := by
  obtain ⟨h1, h2, h3, h4, h5, g, o, c, h6, h7, h8, h9, h10, h11⟩ := h
  have cc : ∀ (k i : Nat), k < n → w'.cell? ⟨k, i, none⟩ = w.cell? ⟨k, i, none⟩ := fun k i hk => World.cell?_of_block (a := ⟨k, i, none⟩) (hb k hk)
  refine ⟨h1, hs, (World.frozen?_of_block (a := ⟨b, 0, none⟩) (hb b h1)).trans h3, h4, h5, g, o, c, h6, h7, (cc _ _ h1).trans h8, h9, h10, fun j t hj => ?_⟩
  obtain ⟨a1, a2, a3⟩ := h11 j t hj
  exact ⟨(cc _ _ h7).trans a1, (cc _ _ h7).trans a2, (cc _ _ h7).trans a3⟩
theorem Rd.below {n : Nat} {w w' : World} {b : Nat} {l : List Tok} (h : Rd n w b l) (hb : Below n w w') : Rd n w' b l := h.keep hb.block (Nat.le_trans h.le hb.size)
theorem Rd.under {n : Nat} {w w' : World} {b : Nat} {l : List Tok} (h : Rd n w b l) (hb : Below w.heap.size w w') : Rd n w' b l := h.below (hb.mono h.le)
theorem Rd.step {n : Nat} {w : World} {b g o c : Nat} {t : Tok} {r : List Tok} (h : Rd n w b (t :: r)) (he : Fine r) (hc : w.cell? ⟨b, 0, none⟩ = some (.slice (some ⟨g, o, none⟩) (t :: r).length c)) :
    Rd n (w.setCell ⟨b, 0, none⟩ (.slice (some ⟨g, o + 3, none⟩) r.length (c - 1))) b r := by
  obtain ⟨h1, h2, h3, h4, h5, g', o', c', h6, h7, h8, h9, h10, h11⟩ := h
  have e : (Value.slice (some ⟨g', o', none⟩) (t :: r).length c') = .slice (some ⟨g, o, none⟩) (t :: r).length c := Option.some.inj (h8.symm.trans hc)
  injection e with e1 e2 e3
  injection e1 with e1
  injection e1 with e1 e4 e5
  subst e1 e3 e4
  have hl : r.length + 1 ≤ c' := by simpa using h9
  refine ⟨h1, by simpa [World.setCell] using h2, by simp [go_sem, h3], he, by simp at h5; omega, g', o' + 3, c' - 1, h6, h7, by simp [go_sem, h8], by omega, by unfold maxLen at *; omega, fun j u hj => ?_⟩
  obtain ⟨a1, a2, a3⟩ := h11 (j + 1) u (by simpa using hj)
  have cc : ∀ i, (w.setCell ⟨b, 0, none⟩ (.slice (some ⟨g', o' + 3, none⟩) r.length (c' - 1))).cell? ⟨g', i, none⟩ = w.cell? ⟨g', i, none⟩ := fun i => World.cell?_of_block (a := ⟨g', i, none⟩) (Below.heap_setCell _ _ _ _ h6)
  have e1 : o' + (j + 1) * 3 = o' + 3 + j * 3 := by omega
  rw [e1] at a1 a2 a3
  exact ⟨(cc _).trans a1, (cc _).trans a2, (cc _).trans a3⟩
theorem Rd.head {n : Nat} {w : World} {b : Nat} {t : Tok} {r : List Tok} (h : Rd n w b (t :: r)) : ∃ g o c, w.cell? ⟨b, 0, none⟩ = some (.slice (some ⟨g, o, none⟩) (t :: r).length c) ∧ r.length + 1 ≤ c ∧ c ≤ maxLen ∧
    w.cell? ⟨g, o, none⟩ = some (.int .u8 (t.kind : Int)) ∧ w.cell? ⟨g, o + 1, none⟩ = some (.string (mkS t.text)) ∧ w.cell? ⟨g, o + 2, none⟩ = some (.int .i64 (t.place : Int)) ∧ g ≠ b ∧ g < n := by
  obtain ⟨h1, h2, h3, h4, h5, g, o, c, h6, h7, h8, h9, h10, h11⟩ := h
  obtain ⟨a1, a2, a3⟩ := h11 0 t rfl
  exact ⟨g, o, c, h8, by simpa using h9, h10, by simpa using a1, by simpa using a2, by simpa using a3, h6, h7⟩
end LexT
namespace Go.Proofs.YtngimijiafnheaaGreat
open Go.Instr Go.RowKit LexT
set_option linter.unusedVariables false
theorem next_any {n b : Nat} {t : Tok} {r : List Tok} (w : World) (h : Rd n w b (t :: r)) :
    Calls Tryz.prog 62 #[.pointer (some ⟨b, 0, none⟩)] w fun e w' => e = .returned (tokV t) ∧ Below w.heap.size w w' := by
  have hb0 : Below w.heap.size w (w.alloc (.cells #[.int .u8 0, .string ⟨#[]⟩, .int .i64 0] 110)) := (Below.refl _ _).alloc (Nat.le_refl _) _
  obtain ⟨g, o, c, hc, h1, h2, k0, k1, k2, h3, h4⟩ := (h.under hb0).head
  have hbn := h.lt
  have hn := h.le
  have hl : ((t :: r).length : Int) = (r.length : Int) + 1 := by simp
  have hl0 : (0 : Int) < (r.length : Int) + 1 := by omega
  have nb : ¬ b = w.heap.size := by omega
  have ng : ¬ g = w.heap.size := by omega
  clear h hb0
  go_enter Tryz.func62, Tryz.ntmps62
  go_wp2_with fail
  try simp only [Exit.inBlock, Exit.then]
  refine bodyPost_ret (v := tokV t) (by simp [tokV, results, Tryz.results62, go_sem]) rfl ⟨rfl, ?_⟩
  exact (Below.refl _ _).alloc (Nat.le_refl _) _
end Go.Proofs.YtngimijiafnheaaGreat
