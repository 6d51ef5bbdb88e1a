import Derived.Test.YtgncihoioacgjaaGreatDoorNumZk
import Derived.Test.YtgncihoioacgjaaGreatDoorNumO
namespace Go.Proofs.YtgncihoioacgjaaGreatDoor
open Go.Instr Go.RowKit NumF
set_option linter.unusedVariables false
theorem und_arr : Tryz.prog.underlying 164 = some (.array 696 163) := by kernel_rfl
theorem cells_pair : Tryz.prog.cellsOf 163 = 2 := by kernel_rfl
theorem cells_u64 : Tryz.prog.cellsOf 29 = 1 := by kernel_rfl
theorem take_drop_get {α : Type} {l : List α} {i k : Nat} {v : α} (hk : k < 2) (h : ((((l.drop (i * 2)).take 2).drop k).take 1) = [v]) : l[i * 2 + k]? = some v := by
  have h2 := congrArg (fun x => x[0]?) h
  simp only [List.getElem?_take, List.getElem?_drop] at h2
  simpa [hk] using h2
theorem two_of {α : Type} {l : List α} (h : l.length = 2) : ∃ a b, l = [a, b] := by
  match l, h with
  | [a, b], _ => exact ⟨a, b, rfl⟩
theorem laid_p10 {w : World} (h : Lib.VarReads Tryz.prog w "internal/strconv.pow10Tab" Rows.laid_internal_strconv_pow10Tab) (i H L : Nat) (hi : i < 696) (hrow : Go.Pinned.pow10Rows[i]? = some (H, L)) :
    w.cell? ⟨10, i * 2, none⟩ = some (.int .u64 H) ∧ w.cell? ⟨10, i * 2 + 1, none⟩ = some (.int .u64 L) := by
  obtain ⟨g, t, cs, fuel, p, hg, ht, hv, htr⟩ := h
  obtain rfl : g = 10 := Option.some.inj (hg.symm.trans (by kernel_rfl))
  obtain rfl : t = 164 := Option.some.inj (ht.symm.trans (by kernel_rfl))
  obtain ⟨xs, n, _, hx, hl, hxl, hf⟩ := DataW.trod_array und_arr htr
  obtain ⟨h1, _⟩ := Prod.mk.inj hx
  have h1' : Go.Pinned.pow10Rows.map (fun x => (DataW.agg [.lit (.int .u64 x.1), .lit (.int .u64 x.2)] : DataW Unit)) = xs.map (·.1) := DataW.agg.inj h1
  have h2 := hf i hi
  obtain ⟨x, hx2⟩ : ∃ x, xs[i]? = some x := ⟨xs[i]'(by omega), List.getElem?_eq_getElem (by omega)⟩
  have h3 := congrArg (fun l => l[i]?) h1'
  simp only [List.getElem?_map, hrow, hx2, Option.map_some] at h3
  have h3 := Option.some.inj h3
  rw [hx2, cells_pair] at h2
  obtain ⟨ys, m, _, hy, hyl, hyl2, hyf⟩ := DataW.trod_struct Tryz.underlying163 h2
  have hy1 : x.1 = .agg (ys.map (·.1)) := congrArg Prod.fst hy
  rw [hy1] at h3
  have h4 := DataW.agg.inj h3
  obtain ⟨y0, y1, rfl⟩ := two_of (hyl2.trans (by rfl))
  have e0 : y0.1 = .lit (.int .u64 H) := by simp at h4; exact h4.1.symm
  have e1 : y1.1 = .lit (.int .u64 L) := by simp at h4; exact h4.2.symm
  have z0 : DataW.trod (fun _ => ()) Tryz.prog w 0 (fun _ => true) false m 29 ((((cs.toList.drop (i * 2)).take 2).drop 0).take (Tryz.prog.cellsOf 29)) = some y0 := hyf 0 _ rfl
  have z1 : DataW.trod (fun _ => ()) Tryz.prog w 0 (fun _ => true) false m 29 ((((cs.toList.drop (i * 2)).take 2).drop 1).take (Tryz.prog.cellsOf 29)) = some y1 := hyf 1 _ rfl
  rw [cells_u64] at z0 z1
  obtain ⟨a0, c0, d0, _⟩ := DataW.trod_int Tryz.underlying29 z0
  obtain ⟨a1, c1, d1, _⟩ := DataW.trod_int Tryz.underlying29 z1
  rw [d0] at e0
  rw [d1] at e1
  obtain rfl : a0 = H := by simpa using e0
  obtain rfl : a1 = L := by simpa using e1
  have g0 := take_drop_get (by omega) c0
  have g1 := take_drop_get (by omega) c1
  refine ⟨?_, ?_⟩
  · rw [World.var?_cell hg hv (i * 2), ← Array.getElem?_toList]; exact g0
  · rw [World.var?_cell hg hv (i * 2 + 1), ← Array.getElem?_toList]; exact g1
set_option maxRecDepth 100000 in
theorem laid_pows2 {w : World} (h : Lib.VarReads Tryz.prog w "internal/strconv.float64pow10" Rows.laid_internal_strconv_float64pow10) :
    ∃ pb po cap, w.cell? ⟨9, 0, none⟩ = some (.slice (some ⟨pb, po, none⟩) 23 cap) ∧ w.cell? ⟨pb, po + 1, none⟩ = some (.float .f64 4621819117588971520) ∧ w.cell? ⟨pb, po + 2, none⟩ = some (.float .f64 4636737291354636288) := by
  obtain ⟨g, t, cs, fuel, p, hg, ht, hv, htr⟩ := h
  obtain rfl : g = 9 := Option.some.inj (hg.symm.trans (by kernel_rfl))
  obtain rfl : t = 156 := Option.some.inj (ht.symm.trans (by kernel_rfl))
  rcases DataW.trod_slice Tryz.underlying156 htr with ⟨_, hx⟩ | ⟨a, len, cap, elems, rest, n, _, hcs, hx, _, hlc, _, hel, hat, _, _⟩
  · simp [Rows.laid_internal_strconv_float64pow10] at hx
  · obtain ⟨h1, _⟩ := Prod.mk.inj hx
    obtain ⟨he, _⟩ := DataW.slice.inj h1
    have hlen : elems.length = 23 := by have := congrArg List.length he; simpa using this.symm
    obtain rfl : len = 23 := by omega
    have get : ∀ i, i < 23 → ∃ (v : Value) (y : DataW Unit × List MemPlace), elems[i]? = some y ∧ w.cell? (a.add i) = some v ∧ DataW.trod (fun _ => ()) Tryz.prog w 0 (fun _ => true) false n 56 [v] = some y := by
      intro i hi
      have h2 := hat i hi
      rw [Tryz.cellsF64, Nat.mul_one] at h2
      cases hE : elems[i]? with
      | none => have := List.getElem?_eq_none_iff.1 hE; omega
      | some y =>
        rw [hE] at h2
        obtain ⟨vs, hvs, htv⟩ := Option.bind_eq_some_iff.1 h2
        have hl1 : vs.length = 1 := by
          unfold World.cells? at hvs
          split at hvs
          · simpa using Lib.mapM_length hvs
          · cases hvs
        match vs, hl1 with
        | [v], _ => exact ⟨v, y, rfl, ChangeShapes.cell_of_cells?_one hvs, htv⟩
    obtain ⟨v0, _, _, hc0, _⟩ := get 0 (by omega)
    have hspot := World.cell?_spot hc0
    obtain ⟨pb, po, sp⟩ := a
    obtain rfl : sp = none := by simpa [Addr.add] using hspot
    have lit : ∀ i c, i < 23 → i ≠ 0 → (elems.map (·.1))[i]? = some (.lit (.float .f64 c)) → w.cell? ⟨pb, po + i, none⟩ = some (.float .f64 c) := by
      intro i c hi hi0 e1
      obtain ⟨v, y, hE, hc, htv⟩ := get i hi
      rw [List.getElem?_map, hE] at e1
      have hy : y.1 = .lit (.float .f64 c) := by simpa using e1
      have hc' : w.cell? ⟨pb, po + i, none⟩ = some v := by simpa [Addr.add, hi0] using hc
      rw [hc']
      obtain ⟨bb, hb1, hb2⟩ := trod_float Tryz.underlying56 htv
      rw [hb2] at hy
      obtain rfl : bb = c := by simpa using hy
      obtain rfl : v = .float .f64 bb := by simpa using hb1
      rfl
    refine ⟨pb, po, cap, ?_, lit 1 _ (by omega) (by omega) (by rw [← he]; rfl), lit 2 _ (by omega) (by omega) (by rw [← he]; rfl)⟩
    have := World.var?_cell hg hv 0
    rw [this, ← Array.getElem?_toList, hcs]; rfl
theorem row347 : Go.Pinned.pow10Rows[347]? = some (14757395258967641293, 3689348814741910323) := by kernel_rfl
theorem row346 : Go.Pinned.pow10Rows[346]? = some (11805916207174113035, 14019525496019259228) := by kernel_rfl
theorem tabz {w : World} (hL : laidMet Tryz.prog laid w) : ∃ pb po cap, Tabz w pb po cap := by
  obtain ⟨pb, po, cap, h1, h2, h3⟩ := laid_pows2 (Lib.laidMet.reads hL (.tail _ (.tail _ (.tail _ (.tail _ (.tail _ (.tail _ (.head _))))))))
  have hp := laid_p10 (Lib.laidMet.reads hL (.tail _ (.tail _ (.tail _ (.tail _ (.tail _ (.tail _ (.tail _ (.tail _ (.tail _ (.tail _ (.tail _ (.tail _ (.head _))))))))))))))
  obtain ⟨a1, a2⟩ := hp 347 _ _ (by omega) row347
  obtain ⟨a3, a4⟩ := hp 346 _ _ (by omega) row346
  exact ⟨pb, po, cap, ⟨⟨laid_opt (Lib.laidMet.reads hL (.tail _ (.tail _ (.tail _ (.tail _ (.head _)))))), laid_info (Lib.laidMet.reads hL (.tail _ (.tail _ (.tail _ (.head _))))), h1, h2⟩, h3, a1, a2, a3, a4⟩⟩
end Go.Proofs.YtgncihoioacgjaaGreatDoor
