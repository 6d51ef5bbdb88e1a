import Derived.Test.YtgncihoioacgjaaGreatDoorNumN
import Derived.Lay
import Derived.ProofKit
import Derived.OpenShut
import Derived.ShutString
import Derived.LaidOnce
import Derived.Lib.LaidU8
import Derived.ChangeArms
import Derived.ChangeSlices
namespace Go.Proofs.YtgncihoioacgjaaGreatDoor
open Go.Instr Go.RowKit NumF
set_option linter.unusedVariables false
theorem Tryz.cellsF64 : Tryz.prog.cellsOf 56 = 1 := by kernel_rfl
theorem Tryz.cellsUint : Tryz.prog.cellsOf 75 = 1 := by kernel_rfl

theorem trod_float {H : Type} {enc : TypeId × Value → H} {P : Program} {w : World} {base : Nat} {spare : Nat → Bool} {held : Bool} {fuel : Nat} {t : TypeId} {cs : List Value} {x : DataW H × List MemPlace} {k : FloatKind} (ht : P.underlying t = some (.float k)) (h : DataW.trod enc P w base spare held fuel t cs = some x) : ∃ b, cs = [.float k b] ∧ x = (.lit (.float k b), []) := by
  cases fuel with
  | zero => simp [DataW.trod] at h
  | succ n =>
    unfold DataW.trod at h
    rw [ht] at h
    split at h <;> simp_all
theorem laid_opt {w : World} (h : Lib.VarReads Tryz.prog w "internal/strconv.optimize" (.lit (.bool true))) : w.cell? ⟨5, 0, none⟩ = some (.bool true) := by
  obtain ⟨g, t, cs, fuel, p, hg, ht, hv, htr⟩ := h
  obtain rfl : g = 5 := Option.some.inj (hg.symm.trans (by kernel_rfl))
  obtain rfl : t = 4 := Option.some.inj (ht.symm.trans (by kernel_rfl))
  obtain ⟨b, hcs, hx⟩ := DataW.trod_bool Tryz.underlying4 htr
  obtain rfl : true = b := by simpa using (Prod.mk.inj hx).1
  have := World.var?_cell hg hv 0
  rw [this]
  have e : cs = #[.bool true] := by rw [← Array.toArray_toList (xs := cs), hcs]
  rw [e]; rfl

theorem laid_info {w : World} (h : Lib.VarReads Tryz.prog w "internal/strconv.float64info" Rows.laid_internal_strconv_float64info) : w.cell? ⟨6, 0, none⟩ = some (.int .u64 52) := by
  obtain ⟨g, t, cs, fuel, p, hg, ht, hv, htr⟩ := h
  obtain rfl : g = 6 := Option.some.inj (hg.symm.trans (by kernel_rfl))
  obtain rfl : t = 123 := Option.some.inj (ht.symm.trans (by kernel_rfl))
  obtain ⟨xs, n, _, hx, hl, hxl, hf⟩ := DataW.trod_struct Tryz.underlying123 htr
  have h0 := hf 0 _ rfl
  obtain ⟨h1, _⟩ := Prod.mk.inj hx
  match xs, hxl with
  | [x0, x1, x2], _ =>
    have e0 : x0.1 = .lit (.int .u64 52) := by simp [Rows.laid_internal_strconv_float64info] at h1; exact h1.1.symm
    have h2 : DataW.trod (fun _ => ()) Tryz.prog w 0 (fun _ => true) false n 75 ((cs.toList.drop 0).take (Tryz.prog.cellsOf 75)) = some x0 := h0
    obtain ⟨m, hm, hx0, _⟩ := DataW.trod_int Tryz.underlying75 h2
    rw [hx0] at e0
    obtain rfl : m = 52 := by simpa using e0
    rw [Tryz.cellsUint] at hm
    have := World.var?_cell hg hv 0
    rw [this]
    cases hcs : cs.toList with
    | nil => rw [hcs] at hm; simp at hm
    | cons v r =>
      rw [hcs] at hm
      obtain rfl : v = .int .u64 52 := by simpa using hm
      rw [← Array.getElem?_toList, hcs]; rfl

set_option maxRecDepth 100000 in
theorem laid_pows {w : World} (h : Lib.VarReads Tryz.prog w "internal/strconv.float64pow10" Rows.laid_internal_strconv_float64pow10) :
    ∃ pb po cap, w.cell? ⟨9, 0, none⟩ = some (.slice (some ⟨pb, po, none⟩) 23 cap) ∧ w.cell? ⟨pb, po + 1, none⟩ = some (.float .f64 4621819117588971520) := by
  obtain ⟨g, t, cs, fuel, p, hg, ht, hv, htr⟩ := h
  obtain rfl : g = 9 := Option.some.inj (hg.symm.trans (by kernel_rfl))
  obtain rfl : t = 156 := Option.some.inj (ht.symm.trans (by kernel_rfl))
  rcases DataW.trod_slice Tryz.underlying156 htr with ⟨_, hx⟩ | ⟨a, len, cap, elems, rest, n, _, hcs, hx, _, hlc, _, hel, hat, _, _⟩
  · simp [Rows.laid_internal_strconv_float64pow10] at hx
  · obtain ⟨h1, _⟩ := Prod.mk.inj hx
    obtain ⟨he, _⟩ := DataW.slice.inj h1
    have hlen : elems.length = 23 := by have := congrArg List.length he; simpa using this.symm
    obtain rfl : len = 23 := by omega
    have get : ∀ i, i < 23 → ∃ (v : Value) (y : DataW Unit × List MemPlace), elems[i]? = some y ∧ w.cell? (a.add i) = some v ∧ DataW.trod (fun _ => ()) Tryz.prog w 0 (fun _ => true) false n 56 [v] = some y := by
      intro i hi
      have h2 := hat i hi
      rw [Tryz.cellsF64, Nat.mul_one] at h2
      cases hE : elems[i]? with
      | none => have := List.getElem?_eq_none_iff.1 hE; omega
      | some y =>
        rw [hE] at h2
        obtain ⟨vs, hvs, htv⟩ := Option.bind_eq_some_iff.1 h2
        have hl1 : vs.length = 1 := by
          unfold World.cells? at hvs
          split at hvs
          · simpa using Lib.mapM_length hvs
          · cases hvs
        match vs, hl1 with
        | [v], _ => exact ⟨v, y, rfl, ChangeShapes.cell_of_cells?_one hvs, htv⟩
    obtain ⟨v0, _, _, hc0, _⟩ := get 0 (by omega)
    have hspot := World.cell?_spot hc0
    obtain ⟨pb, po, sp⟩ := a
    obtain rfl : sp = none := by simpa [Addr.add] using hspot
    obtain ⟨v, y, hE, hc, htv⟩ := get 1 (by omega)
    have e1 : (elems.map (·.1))[1]? = some (.lit (.float .f64 4621819117588971520)) := by rw [← he]; rfl
    rw [List.getElem?_map, hE] at e1
    have hy : y.1 = .lit (.float .f64 4621819117588971520) := by simpa using e1
    refine ⟨pb, po, cap, ?_, ?_⟩
    · have := World.var?_cell hg hv 0
      rw [this, ← Array.getElem?_toList, hcs]; rfl
    · have hc' : w.cell? ⟨pb, po + 1, none⟩ = some v := by simpa [Addr.add] using hc
      rw [hc']
      obtain ⟨bb, hb1, hb2⟩ := trod_float Tryz.underlying56 htv
      rw [hb2] at hy
      obtain rfl : bb = 4621819117588971520 := by simpa using hy
      obtain rfl : v = .float .f64 4621819117588971520 := by simpa using hb1
      rfl
theorem tabs_of_laid {w : World} {l : List (String × DataW Unit)} (hL : laidMet Tryz.prog l w) (m1 : ("internal/strconv.optimize", Rows.laid_internal_strconv_optimize) ∈ l) (m2 : ("internal/strconv.float64info", Rows.laid_internal_strconv_float64info) ∈ l) (m3 : ("internal/strconv.float64pow10", Rows.laid_internal_strconv_float64pow10) ∈ l) : ∃ pb po cap, Tabs w pb po cap := by
  obtain ⟨pb, po, cap, h1, h2⟩ := laid_pows (Lib.laidMet.reads hL m3)
  exact ⟨pb, po, cap, ⟨laid_opt (Lib.laidMet.reads hL m1), laid_info (Lib.laidMet.reads hL m2), h1, h2⟩⟩

theorem own : ownKnob Tryz.prog.godebug = none := by kernel_rfl
theorem laidOut : laidOutB Tryz.prog = true := by kernel_rfl
def laid : List (String × DataW Unit) := Rows.numIntsRow.laid
theorem metH (w : World) : laidMetH Tryz.prog laid w = laidMet Tryz.prog laid w := MakeChecks.laidMetH_plain _ _ _ (by kernel_rfl)
theorem shaped (os : Os) (args : Array Value) : ((World.laidAll Tryz.prog os laid).forCall (fun _ _ => 0) ⟨#[], args, []⟩).Shaped Tryz.prog := World.shaped_of_ZipB (by kernel_rfl) (by kernel_rfl)
theorem met (os : Os) (args : Array Value) : laidMet Tryz.prog laid ((World.laidAll Tryz.prog os laid).forCall (fun _ _ => 0) ⟨#[], args, []⟩).memory :=
  laidMet_laidAll args (by kernel_rfl) (by kernel_rfl)
theorem tabs {w : World} (hL : laidMet Tryz.prog laid w) : ∃ pb po cap, Tabs w pb po cap :=
  tabs_of_laid hL (.tail _ (.tail _ (.tail _ (.tail _ (.head _))))) (.tail _ (.tail _ (.tail _ (.head _)))) (.tail _ (.tail _ (.tail _ (.tail _ (.tail _ (.tail _ (.head _)))))))
end Go.Proofs.YtgncihoioacgjaaGreatDoor
