/- Types that the law itself made: copies with twelve marks behind each list; mathematics alone. -/
import Derived.Test.YtfpjleabmemieaaGreatScoR
import Derived.OwnWalk
set_option maxRecDepth 100000
namespace ScoT
open Go Go.RowKit
set_option linter.unusedVariables false
/-- A mark's text, and a mark. -/
def markB (k i : Nat) : List UInt8 := [35, UInt8.ofNat k, UInt8.ofNat (k / 256), UInt8.ofNat (k / 65536), 47, UInt8.ofNat i, UInt8.ofNat (i / 256), UInt8.ofNat (i / 65536)]
def markT (k i : Nat) : ByteArray := ⟨(markB k i).toArray⟩
def markTy (k i : Nat) : Ty := .mk 0 (markT k i) none 0 []
def marksTy (k n : Nat) : List Ty := (List.range n).map (markTy k)
theorem marksTy_length (k n : Nat) : (marksTy k n).length = n := by simp [marksTy]
theorem marksTy_at (k n i : Nat) (h : i < n) : (marksTy k n)[i]? = some (markTy k i) := by simp [marksTy, h]
theorem marksTy_succ (k n : Nat) : marksTy k (n + 1) = marksTy k n ++ [markTy k n] := by simp [marksTy, List.range_succ]
theorem In.markTy (w : World) (S : Nat → Prop) (k i : Nat) : In w S (markTy k i) :=
  .mk _ ⟨by show (0 : Nat) < 256; omega, by show (markB k i).toArray.size ≤ _; simp [markB], by show (0 : Nat) ≤ 0; omega, by show (0 : Nat) ≤ maxLen; unfold maxLen; omega, fun _ => ⟨rfl, rfl⟩⟩ (fun h => by simp [ScoT.markTy, Ty.els] at h) (fun i u h => by simp [ScoT.markTy, Ty.els] at h)
theorem tcells_append (a b : List Ty) : tcells (a ++ b) = tcells a ++ tcells b := by
  induction a with
  | nil => rfl
  | cons t ts ih => simp only [List.cons_append, tcells, ih, List.append_assoc]
/-- The blocks from lo to below hi. -/
def Span (lo hi : Nat) (b : Nat) : Prop := lo ≤ b ∧ b < hi
/-- A copy that lies in blocks from lo to below hi, twelve marks behind each of its lists. -/
inductive LentT (w : World) (lo hi : Nat) : Ty → Prop
  | mk (x : Ty) (hf : Fits x) (g : Nat) (ha : x.addr = some ⟨g, 0, none⟩) (hc : x.cap = x.els.length + 12) (hg : Span lo hi g) (hp : Plain w g) (hr : ∀ (i : Nat) (t : Ty), (x.els ++ marksTy 1 12)[i]? = some t → CsAt w (g, i * 3) t.cs) (hk : ∀ (i : Nat) (u : Ty), x.els[i]? = some u → LentT w lo hi u) : LentT w lo hi x
section
variable {w w' : World} {lo hi lo' hi' B : Nat} {x u : Ty}
theorem LentT.fits (h : LentT w lo hi x) : Fits x := by cases h; assumption
theorem LentT.kid (h : LentT w lo hi x) {i : Nat} (hi' : x.els[i]? = some u) : LentT w lo hi u := by
  cases h with | mk _ _ _ _ _ _ _ _ hk => exact hk i u hi'
/-- It asks for its own blocks alone. -/
theorem LentT.keepB (h : LentT w lo hi x) (hw : ∀ b ∈ rowBs (subs x), w'.heap[b]? = w.heap[b]?) : LentT w' lo hi x := by
  induction h with
  | mk x hf g ha hc hg hp hr hk ih =>
    have hgm : g ∈ rowBs (subs x) := mem_rowBs.2 ⟨x, by rw [subs_eq]; simp, by unfold Ty.row; rw [ha]; rfl⟩
    refine .mk x hf g ha hc hg (hp.keep (hw g hgm)) (fun i t hi => (hr i t hi).keep fun j _ => World.cell?_of_block (a := ⟨g, i * 3 + j, none⟩) (hw g hgm)) fun i u hi => ih i u hi fun b hb => hw b ?_
    obtain ⟨v, hv, hvb⟩ := mem_rowBs.1 hb
    exact mem_rowBs.2 ⟨v, by rw [subs_eq]; exact List.mem_cons_of_mem _ (mem_subsL.2 ⟨i, u, hi, hv⟩), hvb⟩
theorem LentT.span (h : LentT w lo hi x) : ∀ b ∈ rowBs (subs x), Span lo hi b := by
  induction h with
  | mk x hf g ha hc hg hp hr hk ih =>
    intro b hb
    obtain ⟨v, hv, hvb⟩ := mem_rowBs.1 hb
    rw [subs_eq] at hv
    rcases List.mem_cons.1 hv with rfl | hv
    · unfold Ty.row at hvb
      rw [ha] at hvb
      obtain rfl : g = b := by simpa [Value.ownBlock] using hvb
      exact hg
    · obtain ⟨i, u, hi, hu⟩ := mem_subsL.1 hv
      exact ih i u hi b (mem_rowBs.2 ⟨v, hu, hvb⟩)
theorem LentT.keep (h : LentT w lo hi x) (hw : ∀ b, lo ≤ b → b < hi → w'.heap[b]? = w.heap[b]?) : LentT w' lo hi x := h.keepB fun b hb => hw b (h.span b hb).1 (h.span b hb).2
theorem LentT.under (h : LentT w lo hi x) (hb : Below B w w') (hB : hi ≤ B) : LentT w' lo hi x := h.keep fun b _ h2 => hb.block b (by omega)
theorem LentT.more (h : LentT w lo hi x) (h1 : lo' ≤ lo) (h2 : hi ≤ hi') : LentT w lo' hi' x := by
  induction h with
  | mk x hf g ha hc hg hp hr hk ih => exact .mk x hf g ha hc ⟨by have := hg.1; omega, by have := hg.2; omega⟩ hp hr ih
theorem LentT.isIn (h : LentT w lo hi x) : In w (fun b => Span lo hi b ∧ Plain w b) x := by
  induction h with
  | mk x hf g ha hc hg hp hr hk ih =>
    refine .mk x hf (fun h0 => ⟨g, 0, ha, ⟨hg, hp⟩, fun i t hi j v hv => ?_⟩) ih
    have hl : i < x.els.length := (List.getElem?_eq_some_iff.1 hi).1
    have := hr i t (by rw [List.getElem?_append_left hl]; exact hi) j v hv
    simpa using this
end
mutual
theorem same_refl : (t : Ty) → same t t = true
  | .mk k s A c es => by simp [same, Ty.kind, Ty.name, Ty.els, sameL_refl es]
theorem sameL_refl : (ts : List Ty) → sameL ts ts = true
  | [] => rfl
  | t :: ts => by simp [sameL, same_refl t, sameL_refl ts]
end
end ScoT
