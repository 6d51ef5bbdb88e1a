/- Look and Use. -/
import Derived.Test.YtfpjleabmemieaaGreatScoI
import Derived.Test.YtfpjleabmemieaaGreatScoGa
set_option maxRecDepth 100000
namespace Go.Proofs.YtfpjleabmemieaaGreat
open Go.Instr Go.RowKit ScoT
set_option linter.unusedVariables false
variable {w : World} {tag : Nat → Tag} {n₀ s : Nat} {A : Option Addr} {cap : Nat} {bs : List Bk}
set_option maxHeartbeats 2000000 in
theorem Look_any (name : ByteArray) (h : SC w tag n₀ s A cap bs) (hl : bs.length ≤ 1000000) (hcop : ∀ k ∈ bs, ∀ m ∈ k.names, Copies m.ty) :
    Calls Tryz.prog 13 #[.pointer (some ⟨s, 0, none⟩), .string name] w (TellPost false name bs w) := by
  have hb1 : Below w.heap.size w (w.alloc (.cells #[.int .u8 0, .string ⟨#[]⟩, .slice none 0 0] 26)) := (Below.refl _ _).alloc (Nat.le_refl _) _
  have HT := Lib.hid (tell_anyL name (h.keep hb1.size (fun b hb => hb1.block b (h.lt b hb).2)) hl hcop)
  have HL := Lib.hid (fun (i j : Nat) (k : Bk) (m : Nm) (hi : bs[i]? = some k) (hj : k.names[j]? = some m) => (h.lt m.loc (by rw [((h.bk i k hi).ms j m hj).tg]; simp)).2)
  clear h hl hcop
  cases hsk : seek name bs with
  | none =>
    have HK := Lib.hid hsk
    clear hsk
    go_enter Tryz.func13, Tryz.ntmps13
    go_wp2_with (go_at_call 31; refine HT.out.mono ?_; intro e w' hp
                 have hp' := hp
                 unfold TellPost at hp'
                 rw [HK.out] at hp'
                 obtain ⟨rfl, hb⟩ := hp'
                 obtain ⟨⟨r0, r1, r2⟩, rf⟩ := cs3_of ((hb.block w.heap.size (by simp)).trans (World.alloc_heap_new w _))
                 have HB := Lib.hid hb; clear hp hb
                 unfold zeroTy Ty.val Ty.row Ty.kind Ty.name Ty.addr Ty.els Ty.cap)
    refine bodyPost_ret (v := .tuple #[.agg #[.int .u8 0, .string ⟨#[]⟩, .slice none 0 0], .bool false]) (by simp [results, Tryz.results13, go_sem, r0, r1, r2]) rfl ?_
    unfold TellPost
    rw [HK.out]
    exact ⟨rfl, (((hb1.trans (HB.out.mono (by simp))).setCell (p := ⟨w.heap.size, 0, none⟩) (Nat.le_refl _) _).setCell (p := ⟨w.heap.size, 1, none⟩) (Nat.le_refl _) _).setCell (p := ⟨w.heap.size, 2, none⟩) (Nat.le_refl _) _⟩
  | some ij =>
    obtain ⟨i, j⟩ := ij
    have HK := Lib.hid hsk
    clear hsk
    go_enter Tryz.func13, Tryz.ntmps13
    go_wp2_with (go_at_call 31; refine HT.out.mono ?_; intro e w' hp
                 have hp' := hp
                 unfold TellPost at hp'
                 rw [HK.out] at hp'
                 obtain ⟨k, m, t', hbi, hkj, rfl, hsm, hin, hb⟩ := hp'
                 have hml := HL.out i j k m hbi hkj
                 obtain ⟨⟨r0, r1, r2⟩, rf⟩ := cs3_of ((hb.block w.heap.size (by simp)).trans (World.alloc_heap_new w _))
                 have HB := Lib.hid (And.intro hbi (And.intro hkj (And.intro hsm (And.intro hin hb)))); clear hp hb hin hsm hbi hkj
                 unfold Ty.val Ty.row)
    refine bodyPost_ret (v := .tuple #[t'.val, .bool true]) (by unfold Ty.val Ty.row; simp [results, Tryz.results13, go_sem, r0, r1, r2]) rfl ?_
    unfold TellPost
    rw [HK.out]
    obtain ⟨hbi, hkj, hsm, hin, hb⟩ := HB.out
    have sh : ∀ b, w.heap.size < b → (((w'.setCell ⟨w.heap.size, 0, none⟩ (.int .u8 t'.kind)).setCell ⟨w.heap.size, 1, none⟩ (.string t'.name)).setCell ⟨w.heap.size, 2, none⟩ (.slice t'.addr t'.els.length t'.cap)).heap[b]? = w'.heap[b]? := fun b hb => by
      rw [set_heap _ _ _ _ _ (by omega), set_heap _ _ _ _ _ (by omega), set_heap _ _ _ _ _ (by omega)]
    refine ⟨k, m, t', hbi, hkj, rfl, hsm, hin.keep (by rw [World.size_alloc]; omega) (by simp only [set_size]; exact Nat.le_refl _) (fun b h1 h2 => sh b (by rw [World.size_alloc] at h1; omega)), ?_⟩
    have h2 : Below w.heap.size (after false w m.loc) w' := (hb1).trans (hb.mono (by simp))
    exact ((h2.setCell (p := ⟨w.heap.size, 0, none⟩) (Nat.le_refl _) _).setCell (p := ⟨w.heap.size, 1, none⟩) (Nat.le_refl _) _).setCell (p := ⟨w.heap.size, 2, none⟩) (Nat.le_refl _) _
set_option maxHeartbeats 2000000 in
theorem Use_any (name : ByteArray) (h : SC w tag n₀ s A cap bs) (hl : bs.length ≤ 1000000) (hcop : ∀ k ∈ bs, ∀ m ∈ k.names, Copies m.ty) :
    Calls Tryz.prog 21 #[.pointer (some ⟨s, 0, none⟩), .string name] w (TellPost true name bs w) := by
  have hb1 : Below w.heap.size w (w.alloc (.cells #[.int .u8 0, .string ⟨#[]⟩, .slice none 0 0] 26)) := (Below.refl _ _).alloc (Nat.le_refl _) _
  have HT := Lib.hid (tell_anyU name (h.keep hb1.size (fun b hb => hb1.block b (h.lt b hb).2)) hl hcop)
  have HL := Lib.hid (fun (i j : Nat) (k : Bk) (m : Nm) (hi : bs[i]? = some k) (hj : k.names[j]? = some m) => (h.lt m.loc (by rw [((h.bk i k hi).ms j m hj).tg]; simp)).2)
  clear h hl hcop
  cases hsk : seek name bs with
  | none =>
    have HK := Lib.hid hsk
    clear hsk
    go_enter Tryz.func21, Tryz.ntmps21
    go_wp2_with (go_at_call 31; refine HT.out.mono ?_; intro e w' hp
                 have hp' := hp
                 unfold TellPost at hp'
                 rw [HK.out] at hp'
                 obtain ⟨rfl, hb⟩ := hp'
                 obtain ⟨⟨r0, r1, r2⟩, rf⟩ := cs3_of ((hb.block w.heap.size (by simp)).trans (World.alloc_heap_new w _))
                 have HB := Lib.hid hb; clear hp hb
                 unfold zeroTy Ty.val Ty.row Ty.kind Ty.name Ty.addr Ty.els Ty.cap)
    refine bodyPost_ret (v := .tuple #[.agg #[.int .u8 0, .string ⟨#[]⟩, .slice none 0 0], .bool false]) (by simp [results, Tryz.results21, go_sem, r0, r1, r2]) rfl ?_
    unfold TellPost
    rw [HK.out]
    exact ⟨rfl, (((hb1.trans (HB.out.mono (by simp))).setCell (p := ⟨w.heap.size, 0, none⟩) (Nat.le_refl _) _).setCell (p := ⟨w.heap.size, 1, none⟩) (Nat.le_refl _) _).setCell (p := ⟨w.heap.size, 2, none⟩) (Nat.le_refl _) _⟩
  | some ij =>
    obtain ⟨i, j⟩ := ij
    have HK := Lib.hid hsk
    clear hsk
    go_enter Tryz.func21, Tryz.ntmps21
    go_wp2_with (go_at_call 31; refine HT.out.mono ?_; intro e w' hp
                 have hp' := hp
                 unfold TellPost at hp'
                 rw [HK.out] at hp'
                 obtain ⟨k, m, t', hbi, hkj, rfl, hsm, hin, hb⟩ := hp'
                 have hml := HL.out i j k m hbi hkj
                 obtain ⟨⟨r0, r1, r2⟩, rf⟩ := cs3_of ((hb.block w.heap.size (by simp)).trans ((set_heap _ _ _ _ _ (by omega)).trans (World.alloc_heap_new w _)))
                 have HB := Lib.hid (And.intro hbi (And.intro hkj (And.intro hsm (And.intro hin hb)))); clear hp hb hin hsm hbi hkj
                 unfold Ty.val Ty.row)
    refine bodyPost_ret (v := .tuple #[t'.val, .bool true]) (by unfold Ty.val Ty.row; simp [results, Tryz.results21, go_sem, r0, r1, r2]) rfl ?_
    unfold TellPost
    rw [HK.out]
    obtain ⟨hbi, hkj, hsm, hin, hb⟩ := HB.out
    have sh : ∀ b, w.heap.size < b → (((w'.setCell ⟨w.heap.size, 0, none⟩ (.int .u8 t'.kind)).setCell ⟨w.heap.size, 1, none⟩ (.string t'.name)).setCell ⟨w.heap.size, 2, none⟩ (.slice t'.addr t'.els.length t'.cap)).heap[b]? = w'.heap[b]? := fun b hb => by
      rw [set_heap _ _ _ _ _ (by omega), set_heap _ _ _ _ _ (by omega), set_heap _ _ _ _ _ (by omega)]
    refine ⟨k, m, t', hbi, hkj, rfl, hsm, hin.keep (by rw [World.size_alloc]; omega) (by simp only [set_size]; exact Nat.le_refl _) (fun b h1 h2 => sh b (by rw [World.size_alloc] at h1; omega)), ?_⟩
    have h2 : Below w.heap.size (after true w m.loc) w' := (below_set hb1 _ _).trans (hb.mono (by simp))
    exact ((h2.setCell (p := ⟨w.heap.size, 0, none⟩) (Nat.le_refl _) _).setCell (p := ⟨w.heap.size, 1, none⟩) (Nat.le_refl _) _).setCell (p := ⟨w.heap.size, 2, none⟩) (Nat.le_refl _) _
end Go.Proofs.YtfpjleabmemieaaGreat
