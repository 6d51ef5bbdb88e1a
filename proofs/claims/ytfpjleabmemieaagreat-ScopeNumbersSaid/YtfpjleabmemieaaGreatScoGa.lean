/- A scope in which a name is used: the memory's side. -/
import Derived.Test.YtfpjleabmemieaaGreatScoG
set_option maxRecDepth 100000
namespace ScoT
open Go Go.RowKit
set_option linter.unusedVariables false
/-- Name j of block i, used. -/
def useAt (bs : List Bk) (i j : Nat) : List Bk := bs.modify i fun k => { k with names := k.names.modify j fun m => { m with used := true } }
theorem entsFrom_use (c j : Nat) (l : List Nm) : entsFrom c (l.modify j fun m => { m with used := true }) = entsFrom c l := by
  induction l generalizing c j with
  | nil => simp
  | cons n ns ih =>
    cases j with
    | zero => simp [entsFrom]
    | succ j => simp [entsFrom, ih]
theorem ents_use (j : Nat) (l : List Nm) : ents (l.modify j fun m => { m with used := true }) = ents l := by simp [ents, entsFrom_use]
theorem names_use {β : Type} (f : Nm → β) (hf : ∀ m, f { m with used := true } = f m) (j : Nat) (l : List Nm) : (l.modify j fun m => { m with used := true }).map f = l.map f := by
  induction l generalizing j with
  | nil => simp
  | cons n ns ih =>
    cases j with
    | zero => simp [hf]
    | succ j => simp [ih]
section
variable {w : World} {tag : Nat → Tag} {n₀ : Nat} {TS TP : TypeId} {s : Nat} {A : Option Addr} {cap : Nat} {bs : List Bk}
theorem Scp.use {i j : Nat} {k : Bk} {m : Nm} (h : Scp w tag n₀ TS TP s A cap bs) (hi : bs[i]? = some k) (hj : k.names[j]? = some m) :
    Scp (w.setCell ⟨m.loc, 3, none⟩ (.bool true)) tag n₀ TS TP s A cap (useAt bs i j) ∧ Turns w tag (w.setCell ⟨m.loc, 3, none⟩ (.bool true)) tag := by
  have hk := h.bk i k hi
  have hm := hk.ms j m hj
  have old : ∀ b, tag b ≠ .mean i j → (w.setCell ⟨m.loc, 3, none⟩ (.bool true)).heap[b]? = w.heap[b]? := fun b hb => set_heap _ _ _ _ _ (by rintro rfl; exact hb hm.tg)
  have sh := old s (by rw [h.tg]; simp)
  have hlen : (useAt bs i j).length = bs.length := by simp [useAt]
  have hlocs : (useAt bs i j).map (fun k => Value.pointer (some ⟨k.loc, 0, none⟩)) = bs.map fun k => Value.pointer (some ⟨k.loc, 0, none⟩) := by
    unfold useAt
    clear hlen sh old hk hm hi h
    induction bs generalizing i with
    | nil => simp
    | cons b r ih =>
      cases i with
      | zero => simp
      | succ i => simp [ih]
  refine ⟨⟨?_, ?_, ?_, h.tg, ?_, ?_, ?_, ?_, fun b hb => (h.pl b hb).keep (old b (by rw [hb]; simp))⟩, ⟨rfl, rfl, rfl⟩, ?_, ?_⟩
  · rw [hlen, World.cell?_of_block (a := ⟨s, 0, none⟩) sh]; exact h.c0
  · rw [World.cell?_of_block (a := ⟨s, 1, none⟩) sh]; exact h.c1
  · intro o; rw [World.frozen?_setCell]; exact h.fr o
  · rw [hlen, hlocs]
    exact row_keep h.own fun b hb => old b (by rw [h.rt b hb]; simp)
  · intro b hb
    rw [hlen] at hb
    exact h.rt b hb
  · intro a q hq
    by_cases hai : a = i
    · subst hai
      have hq' : q = { k with names := k.names.modify j fun m => { m with used := true } } := by
        have : (useAt bs a j)[a]? = some { k with names := k.names.modify j fun m => { m with used := true } } := by simp [useAt, hi]
        rw [this] at hq; exact (Option.some.inj hq).symm
      subst hq'
      have kl := old k.loc (by rw [hk.tg]; simp)
      refine ⟨?_, ?_, ?_, hk.tg, ?_, hk.mt, ?_, hk.ot, ?_, ?_⟩
      · rw [World.cell?_of_block (a := ⟨k.loc, 0, none⟩) kl]; exact hk.c0
      · rw [World.cell?_of_block (a := ⟨k.loc, 1, none⟩) kl]; exact hk.c1
      · intro o; rw [World.frozen?_setCell]; exact hk.fr o
      · show (w.setCell ⟨m.loc, 3, none⟩ (.bool true)).heap[k.mp]? = some (Obj.map (ents (k.names.modify j fun m => { m with used := true })) (k.names.modify j fun m => { m with used := true }).length)
        rw [ents_use, List.length_modify, old k.mp (by rw [hk.mt]; simp)]; exact hk.mp
      · show World.ownsRow _ _ _ _ _ (k.names.modify j fun m => { m with used := true }).length ((k.names.modify j fun m => { m with used := true }).map fun m => .string m.name)
        rw [List.length_modify, names_use (fun m => Value.string m.name) (fun _ => rfl)]
        exact row_keep hk.own fun b hb => old b (by rw [hk.ot b hb]; simp)
      · intro x y hy
        have hy' : (k.names.modify j fun m => { m with used := true })[x]? = some y := hy
        rw [List.getElem?_modify] at hy'
        by_cases hxj : j = x
        · subst hxj
          rw [hj] at hy'
          obtain rfl : ({ m with used := true } : Nm) = y := by simpa using hy'
          have c : ∀ o, o ≠ 3 → (w.setCell ⟨m.loc, 3, none⟩ (.bool true)).cell? ⟨m.loc, o, none⟩ = w.cell? ⟨m.loc, o, none⟩ := fun o ho => World.cell?_setCell_other _ _ _ _ (fun e => ho (by injection e with _ e _; exact e.symm))
          refine ⟨(c 0 (by decide)).trans hm.c0, (c 1 (by decide)).trans hm.c1, (c 2 (by decide)).trans hm.c2, World.cell?_setCell_same' _ _ _ (by rw [hm.c3]; rfl), fun o => by rw [World.frozen?_setCell]; exact hm.fr o, hm.tg, ?_, hm.sz⟩
          exact hm.ty.keep (fun b hb => hb) (fun p hp => World.cell?_of_block (old p.block (by rw [hp]; simp)))
        · have hy2 : k.names[x]? = some y := by simpa [hxj] using hy'
          refine (hk.ms x y hy2).keep fun b hb => ⟨old b ?_, rfl⟩
          rcases hb with hb | hb <;> rw [hb] <;> simp
          exact fun e => hxj e.symm
      · show ((k.names.modify j fun m => { m with used := true }).map Nm.name).Nodup
        rw [names_use Nm.name (fun _ => rfl)]; exact hk.nd
    · have hq' : bs[a]? = some q := by
        unfold useAt at hq
        rw [List.getElem?_modify] at hq
        simpa [show ¬ i = a from fun e => hai e.symm] using hq
      refine (h.bk a q hq').keep fun b hb => ⟨old b (fun e => ?_), rfl⟩
      rw [e] at hb
      simp [Tag.mine] at hb
      exact hai hb.symm
  · intro b hb
    rw [set_size]; exact h.lt b hb
  · rw [set_size]; exact Nat.le_refl _
  · intro b hb ht
    exact ⟨old b (by rw [ht]; simp), ht⟩
end
end ScoT
