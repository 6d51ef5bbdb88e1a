import Derived.Test.YtbiohbklefjfiaaDoorNodE
set_option maxRecDepth 100000
namespace Go.Proofs.YtbiohbklefjfiaaDoor
open Go.Instr Go.RowKit NodT
set_option linter.unusedVariables false
theorem manyL_mem {ts : List Nd} {t : Nd} (h : t ∈ ts) : many t ≤ manyL ts := by
  induction ts with
  | nil => simp at h
  | cons u us ih =>
    rcases List.mem_cons.1 h with rfl | h
    · simp only [manyL]; omega
    · have := ih h; simp only [manyL]; omega
theorem bcell {W w1 : World} (hb : Below W.heap.size W w1) : (∀ b o, b < W.heap.size → w1.cell? ⟨b, o, none⟩ = W.cell? ⟨b, o, none⟩) ∧ (∀ b o, b < W.heap.size → w1.frozen? ⟨b, o, none⟩ = W.frozen? ⟨b, o, none⟩) :=
  ⟨fun b o h => hb.cell (p := ⟨b, o, none⟩) h, fun b o h => hb.frozen (p := ⟨b, o, none⟩) h⟩
theorem LentNode_any : ∀ t, LentOf t := by
  refine Nd.rose fun t ih => ?_
  intro w B h hB hm
  have hme := many_eq t
  have hll := length_le_manyL t.kids
  have HS := Lib.hid (LentNodes_of t.kids ih (fun u hu => by have := manyL_mem hu; omega) (by omega))
  have HF := Lib.hid h.fits
  have HL := Lib.hid (like_eq t)
  have HM : Hid (t.kids.length ≤ 1000000) := by show _ ≤ _; omega
  clear ih hme hll hm
  unfold Nd.val Nd.row
  go_enter Tryd.func9, Tryd.ntmps9
  go_wp2_with fail
  refine (HS.out _ _ _ B ((h.list.alloc hB _).alloc (by simp; omega) _) (by simp; omega)).mono ?_
  rintro e w1 ⟨g, xs, rfl, h1, h2, h3, h4, h5, h6⟩
  clear h HS
  have hz : w.heap.size + 1 < w1.heap.size := by have := h6.size; simp at this; omega
  have hlen := ((likeL_iff _ _).1 h1).1
  have bb := (Blk5.new w 25 (.int .u8 t.kind) (.string t.text) (.int .i64 t.num) (.int .i64 t.place) (.slice t.addr t.kids.length t.cap)).under ((Below.refl _ _).alloc (by simp) (.cells #[.int .u8 0, .string ⟨#[]⟩, .int .i64 0, .int .i64 0, .slice none 0 0] 25)) (B := w.heap.size + 1) (by omega)
  obtain ⟨c0, c1, c2, c3, c4, f0, f1, f2, f3, f4⟩ := bb.under h6 (by simp; omega)
  have bz := Blk5.new (w.alloc (.cells #[.int .u8 t.kind, .string t.text, .int .i64 t.num, .int .i64 t.place, .slice t.addr t.kids.length t.cap] 25)) 25 (.int .u8 0) (.string ⟨#[]⟩) (.int .i64 0) (.int .i64 0) (.slice none 0 0)
  have bz1 : Blk5 w1 (w.heap.size + 1) (.int .u8 0) (.string ⟨#[]⟩) (.int .i64 0) (.int .i64 0) (.slice none 0 0) := by
    have := bz.under h6 (by simp)
    simpa using this
  obtain ⟨d0, d1, d2, d3, d4, g0, g1, g2, g3, g4⟩ := bz1
  clear bb bz
  have H1 := Lib.hid h1
  have H4 := Lib.hid h4
  have H5 := Lib.hid h5
  have H6 := Lib.hid h6
  have HN := Lib.hid hlen
  have H2 : w.heap.size + 2 ≤ g := by simpa using h2
  clear h1 h4 h5 h6 hlen h2
  go_wp2_with fail
  refine bodyPost_ret (v := (Nd.mk t.kind t.text t.num t.place (some ⟨g, 0, none⟩) (t.kids.length + 12) xs).val) (by rw [val_mk, ← HN.out]; simp [results, Tryd.results9, go_sem, d0, d1, d2, d3, d4]) rfl ?_
  have hT := HF.out
  generalize hv1 : Value.slice (some ⟨g, 0, none⟩) t.kids.length (t.kids.length + 12) = v1
  clear hv1
  have hs2 : (w.alloc (.cells #[.int .u8 t.kind, .string t.text, .int .i64 t.num, .int .i64 t.place, .slice t.addr t.kids.length t.cap] 25) |>.alloc (.cells #[.int .u8 0, .string ⟨#[]⟩, .int .i64 0, .int .i64 0, .slice none 0 0] 25)).heap.size = w.heap.size + 2 := by simp
  have h5 := H5.out
  have h6 := H6.out
  rw [hs2] at h5 h6
  show LentPost t w _ (fin6 w1 w.heap.size v1 _ _ _ _ v1)
  refine ⟨_, rfl, by rw [like_mk]; simp [H1.out], ?_, ?_⟩
  · refine .mk _ ⟨hT.kind, hT.text, hT.num, hT.place, by show xs.length ≤ t.kids.length + 12; rw [← HN.out]; omega, by show t.kids.length + 12 ≤ _; unfold maxLen; have := HM.out; omega, fun h => by cases h⟩ g rfl (by show t.kids.length + 12 = xs.length + 12; rw [← HN.out]) ⟨by omega, by rw [fin6_size]; exact h3⟩ ?_ ?_
    · rw [fin6_size]
      exact H4.out.fin6 H2
    · intro i u hu
      rw [fin6_size]
      exact ((h5 u (List.mem_of_getElem? hu)).keep fun p p1 p2 => fin6_cell _ _ _ _ _ _ _ _ _ p1).more (by omega) (Nat.le_refl _)
  · exact fin6_below ((((Below.refl _ _).alloc (Nat.le_refl _) _).alloc (by simp) _).trans (h6.mono (by omega))) _ _ _ _ _ _
end Go.Proofs.YtbiohbklefjfiaaDoor
