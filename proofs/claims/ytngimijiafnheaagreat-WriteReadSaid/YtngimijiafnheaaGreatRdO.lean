/- A rule. -/
import Derived.Test.YtngimijiafnheaaGreatRdN
set_option maxRecDepth 100000
set_option linter.unusedSimpArgs false
namespace LexT
open Go Go.RowKit
set_option linter.unusedVariables false
end LexT
namespace Go.Proofs.YtngimijiafnheaaGreat
open Go.Instr Go.RowKit LexT
set_option linter.unusedVariables false
variable {n b : Nat} {t : Tok} {r l : List Tok}
theorem eg_rule1 : ∀ args w, (callFunc 65 args).run Tryz.prog w = .ok (.enter 65 args) w := fun _ _ => by kernel_rfl
theorem eg_rule2 : ∀ args w, (callFunc 67 args).run Tryz.prog w = .ok (.enter 67 args) w := fun _ _ => by kernel_rfl
/-- A rule as it is read, with its params. -/
structure RuS (n lo b p : Nat) (nm : Bs) (pl : Nat) (v va : Value) (ps : List Bs) (Sp : List Nat) (w V : World) (l : List Tok) : Prop where
  rd : Rd n V b l
  box : V.heap[p]? = some (.cells #[.string (mkS nm), v, va, .int .i64 (pl : Int)] 44 (0, 0))
  at_ : At V (.row 9 1 (ps.map strC)) Sp v
  nd : Sp.Nodup
  ge : ∀ s ∈ Sp, p < s
  ptr : V.heap[lo]? = some (.cells #[.pointer (some ⟨b, 0, none⟩)] 88 (0, 0))
  res : V.heap[lo + 1]? = some (.cells #[.string ⟨#[]⟩, .slice none 0 0, .slice none 0 0, .int .i64 0] 44 (0, 0))
  gr : w.grownBy V (some b)
  b0 : b < lo
  p1 : lo + 1 < p
theorem RuS.turn {n lo p pl : Nat} {nm : Bs} {v va : Value} {ps : List Bs} {Sp : List Nat} {w V V2 : World} {l l2 : List Tok} (h : RuS n lo b p nm pl v va ps Sp w V l) (hr : Rd n V2 b l2) (hg : V.grownBy V2 (some b)) : RuS n lo b p nm pl v va ps Sp w V2 l2 := by
  obtain ⟨h1, h2, h3, h4, h5, h6, h7, h8, h9, h10⟩ := h
  have e : ∀ i, b < i → i < V.heap.size → V2.heap[i]? = V.heap[i]? := fun i hi hl => hg.block i hl (by intro hh; injection hh with hh; omega)
  have l2 := (Array.getElem?_eq_some_iff.1 h2).1
  have l6 := (Array.getElem?_eq_some_iff.1 h6).1
  have l7 := (Array.getElem?_eq_some_iff.1 h7).1
  exact ⟨hr, (e p (by omega) l2).trans h2, h3.same _ _ _ (fun g hg => e g (by have := h5 g hg; omega) (At.lt _ _ _ h3 g hg)), h4, h5, (e _ h9 l6).trans h6, (e _ (by omega) l7).trans h7, grown_trans h8 hg, h9, h10⟩
theorem RuS.under {n lo p pl : Nat} {nm : Bs} {v va : Value} {ps : List Bs} {Sp : List Nat} {w V V2 : World} {l : List Tok} (h : RuS n lo b p nm pl v va ps Sp w V l) (hb : Below V.heap.size V V2) : RuS n lo b p nm pl v va ps Sp w V2 l := h.turn (h.rd.under hb) (grown_below hb _)
/-- Ahead of the alternatives. -/
theorem RuS.fld {n lo p pl : Nat} {nm : Bs} {v : Value} {ps : List Bs} {Sp : List Nat} {w V : World} {l : List Tok} (h : RuS n lo b p nm pl v (.slice none 0 0) ps Sp w V l) :
    FldJ lo V.heap.size b p lo 44 88 47 6 (fun u => #[.string (mkS nm), v, u, .int .i64 (pl : Int)]) V [] := by
  have l2 := (Array.getElem?_eq_some_iff.1 h.box).1
  have p1 := h.p1
  exact ⟨⟨.slice none 0 0, [], h.box, At.empty _ _ _, List.nodup_nil, by simp⟩, h.ptr, h.b0, by omega, l2, Nat.le_refl _, by omega, by omega, Nat.le_refl _⟩
/-- Behind the alternatives. -/
theorem RuS.behind {n lo p pl lo2 : Nat} {nm : Bs} {v : Value} {ps : List Bs} {Sp : List Nat} {w V V2 : World} {l l2 : List Tok} {cs : List Cell} (h : RuS n lo b p nm pl v (.slice none 0 0) ps Sp w V l) (hr : Rd n V2 b l2) (hx : Nx V.heap.size b p V V2) (hw : w.heap.size ≤ lo)
    (hf : FldJ lo V.heap.size b p lo 44 88 47 6 (fun u => #[.string (mkS nm), v, u, .int .i64 (pl : Int)]) V2 cs) :
    ∃ ao cn cc Sa, RuS n lo b p nm pl v (.slice ao cn cc) ps Sp w V2 l2 ∧ At V2 (.row 47 6 cs) Sa (.slice ao cn cc) ∧ Sa.Nodup ∧ ∀ s ∈ Sa, V.heap.size ≤ s := by
  obtain ⟨h1, h2, h3, h4, h5, h6, h7, h8, h9, h10⟩ := h
  obtain ⟨va, Sa, hv, hat, hnd, hge⟩ := hf.row
  obtain ⟨ao, cn, cc, rfl⟩ := hat.slice
  have l7 := (Array.getElem?_eq_some_iff.1 h7).1
  refine ⟨ao, cn, cc, Sa, ⟨hr, hv, h3.same _ _ _ (fun g hg => hx.block g (At.lt _ _ _ h3 g hg) (by have := h5 g hg; omega) (by have := h5 g hg; omega)), h4, h5, hf.ptr, (hx.block _ l7 (by omega) (by omega)).trans h7, ?_, h9, h10⟩, hat, hnd, hge⟩
  refine ⟨hx.os.trans h8.os, hx.tape.trans h8.tape, hx.output.trans h8.output, Nat.le_trans h8.size hx.size, fun i hi hne => ?_⟩
  exact (hx.block i (by have := h8.size; omega) (fun hh => hne (by rw [hh])) (by omega)).trans (h8.block i hi hne)
end Go.Proofs.YtngimijiafnheaaGreat
