/- Words, alternatives, rules, declarations, texts that are the same. -/
import Derived.Test.YtngimijiafnheaaGreatRdWb
set_option maxRecDepth 100000
set_option linter.unusedSimpArgs false
namespace LexT
open Go Go.RowKit
set_option linter.unusedVariables false
theorem AtL.uncons {w : World} {c : Cell} {cs : List Cell} {S : List Nat} {xs : List Value} (h : AtL w (c :: cs) S xs) : ∃ S1 S2 x xs', S = S1 ++ S2 ∧ xs = x :: xs' ∧ At w c S1 x ∧ AtL w cs S2 xs' := by
  unfold AtL at h; exact h
theorem AtL.unnil {w : World} {S : List Nat} {xs : List Value} (h : AtL w [] S xs) : xs = [] := by
  unfold AtL at h; exact h.2
theorem At.unplain {w : World} {u v : Value} {S : List Nat} (h : At w (.p u) S v) : v = u := by
  unfold At at h; exact h.1
theorem wordParts {w : World} {T : TypeId} {nm : Bs} {ws : List Wd} {q : Nat} {S : List Nat} {xs : List Value} (h : AtL w (wdC T (.mk nm ws q)) S xs) : ∃ (ao : Option Addr) (n c : Nat) (Sa : List Nat), xs = [.string (mkS nm), .slice ao n c, .int .i64 (q : Int)] ∧ At w (.row T 3 (ws.flatMap (wdC T))) Sa (.slice ao n c) := by
  unfold wdC at h
  rw [wdsC_flat] at h
  obtain ⟨S1, S2, x1, xs1, rfl, rfl, h1, h⟩ := h.uncons
  obtain ⟨S3, S4, x2, xs2, rfl, rfl, h2, h⟩ := h.uncons
  obtain ⟨S5, S6, x3, xs3, rfl, rfl, h3, h⟩ := h.uncons
  obtain rfl := h.unnil
  obtain rfl := At.unplain h1
  obtain rfl := h3.unplain
  obtain ⟨ao, n, c, rfl⟩ := h2.slice
  exact ⟨ao, n, c, S3, rfl, h2⟩
end LexT
namespace Go.Proofs.YtngimijiafnheaaGreat
open Go.Instr Go.RowKit LexT
set_option linter.unusedVariables false
theorem altParts {w : World} {a : Al} {S : List Nat} {xs : List Value} (h : AtL w (altC a) S xs) : ∃ (ao : Option Addr) (n c : Nat) (Sa : List Nat), xs = [.slice ao n c, .string (mkS a.prec), .bool a.has, .string (mkS a.action), .int .i64 (IntKind.i64.wrap (a.where_ : Int)), .int .i64 (a.at_ : Int)] ∧ At w (.row 50 3 (a.words.flatMap (wdC 50))) Sa (.slice ao n c) := by
  unfold altC at h
  rw [wdsC_flat] at h
  obtain ⟨S1, S2, x1, xs1, rfl, rfl, h1, h⟩ := h.uncons
  obtain ⟨S3, S4, x2, xs2, rfl, rfl, h2, h⟩ := h.uncons
  obtain ⟨S5, S6, x3, xs3, rfl, rfl, h3, h⟩ := h.uncons
  obtain ⟨S7, S8, x4, xs4, rfl, rfl, h4, h⟩ := h.uncons
  obtain ⟨S9, S10, x5, xs5, rfl, rfl, h5, h⟩ := h.uncons
  obtain ⟨S11, S12, x6, xs6, rfl, rfl, h6, h⟩ := h.uncons
  obtain rfl := h.unnil
  obtain rfl := At.unplain h2
  obtain rfl := h3.unplain
  obtain rfl := At.unplain h4
  obtain rfl := h5.unplain
  obtain rfl := h6.unplain
  obtain ⟨ao, n, c, rfl⟩ := h1.slice
  exact ⟨ao, n, c, S1, rfl, h1⟩
theorem ruleParts {w : World} {a : Ru} {S : List Nat} {xs : List Value} (h : AtL w (ruleC a) S xs) : ∃ (ao : Option Addr) (n c : Nat) (Sa : List Nat) (bo : Option Addr) (m d : Nat) (Sb : List Nat), xs = [.string (mkS a.name), .slice ao n c, .slice bo m d, .int .i64 (a.at_ : Int)] ∧ At w (.row 9 1 (a.params.map strC)) Sa (.slice ao n c) ∧ At w (.row 47 6 (a.alts.flatMap altC)) Sb (.slice bo m d) := by
  unfold ruleC at h
  obtain ⟨S1, S2, x1, xs1, rfl, rfl, h1, h⟩ := h.uncons
  obtain ⟨S3, S4, x2, xs2, rfl, rfl, h2, h⟩ := h.uncons
  obtain ⟨S5, S6, x3, xs3, rfl, rfl, h3, h⟩ := h.uncons
  obtain ⟨S7, S8, x4, xs4, rfl, rfl, h4, h⟩ := h.uncons
  obtain rfl := h.unnil
  obtain rfl := At.unplain h1
  obtain rfl := h4.unplain
  obtain ⟨ao, n, c, rfl⟩ := h2.slice
  obtain ⟨bo, m, d, rfl⟩ := h3.slice
  exact ⟨ao, n, c, S3, bo, m, d, S5, rfl, h2, h3⟩
theorem declParts {w : World} {a : De} {S : List Nat} {xs : List Value} (h : AtL w (declC a) S xs) : ∃ (ao : Option Addr) (n c : Nat) (Sa : List Nat), xs = [.string (mkS a.kind), .string (mkS a.type), .slice ao n c, .int .i64 (a.at_ : Int)] ∧ At w (.row 9 1 (a.names.map strC)) Sa (.slice ao n c) := by
  unfold declC at h
  obtain ⟨S1, S2, x1, xs1, rfl, rfl, h1, h⟩ := h.uncons
  obtain ⟨S3, S4, x2, xs2, rfl, rfl, h2, h⟩ := h.uncons
  obtain ⟨S5, S6, x3, xs3, rfl, rfl, h3, h⟩ := h.uncons
  obtain ⟨S7, S8, x4, xs4, rfl, rfl, h4, h⟩ := h.uncons
  obtain rfl := h.unnil
  obtain rfl := At.unplain h1
  obtain rfl := At.unplain h2
  obtain rfl := h4.unplain
  obtain ⟨ao, n, c, rfl⟩ := h3.slice
  exact ⟨ao, n, c, S5, rfl, h3⟩
theorem textParts {w : World} {a : Tx} {S : List Nat} {xs : List Value} (h : AtL w (textC a) S xs) : ∃ (ao : Option Addr) (n c : Nat) (Sa : List Nat) (bo : Option Addr) (m d : Nat) (Sb : List Nat), xs = [.slice ao n c, .slice bo m d] ∧ At w (.row 41 4 (a.decls.flatMap declC)) Sa (.slice ao n c) ∧ At w (.row 44 4 (a.rules.flatMap ruleC)) Sb (.slice bo m d) := by
  unfold textC at h
  obtain ⟨S1, S2, x1, xs1, rfl, rfl, h1, h⟩ := h.uncons
  obtain ⟨S3, S4, x2, xs2, rfl, rfl, h2, h⟩ := h.uncons
  obtain rfl := h.unnil
  obtain ⟨ao, n, c, rfl⟩ := h1.slice
  obtain ⟨bo, m, d, rfl⟩ := h2.slice
  exact ⟨ao, n, c, S1, bo, m, d, S3, rfl, h1, h2⟩
set_option maxHeartbeats 4000000 in
theorem SameWord_one : (x : Wd) → (S S' : List Nat) → (vx vy : List Value) → (w : World) → AtL w (wdC 50 x) S vx → AtL w (wdC 50 x) S' vy → Calls Tryz.prog 119 #[.agg vx.toArray, .agg vy.toArray] w fun e w' => e = .returned (.bool true) ∧ Below w.heap.size w w'
  | .mk nm ws q, S, S', vx, vy, w, hx, hy => by
    have hrec : ∀ y ∈ ws, ∀ (S S' : List Nat) (vx vy : List Value) (w : World), AtL w (wdC 50 y) S vx → AtL w (wdC 50 y) S' vy → Calls Tryz.prog 119 #[.agg vx.toArray, .agg vy.toArray] w fun e w' => e = .returned (.bool true) ∧ Below w.heap.size w w' := fun y hy => SameWord_one y
    obtain ⟨ao, n, c, Sa, rfl, ha⟩ := wordParts hx
    obtain ⟨bo, m, d, Sb, rfl, hb'⟩ := wordParts hy
    clear hx hy
    obtain ⟨⟨e0, e1⟩, hb2, hs2⟩ := alloc2 w (.cells #[.string (mkS nm), .slice ao n c, .int .i64 (q : Int)] 50) (.cells #[.string (mkS nm), .slice bo m d, .int .i64 (q : Int)] 50)
    have HBX : Hid (∀ V, Below ((w.alloc (.cells #[.string (mkS nm), .slice ao n c, .int .i64 (q : Int)] 50)).alloc (.cells #[.string (mkS nm), .slice bo m d, .int .i64 (q : Int)] 50)).heap.size ((w.alloc (.cells #[.string (mkS nm), .slice ao n c, .int .i64 (q : Int)] 50)).alloc (.cells #[.string (mkS nm), .slice bo m d, .int .i64 (q : Int)] 50)) V → (V.cell? ⟨w.heap.size, 0, none⟩ = some (.string (mkS nm)) ∧ V.cell? ⟨w.heap.size, 1, none⟩ = some (.slice ao n c) ∧ V.cell? ⟨w.heap.size, 2, none⟩ = some (.int .i64 (q : Int)) ∧ V.cell? ⟨w.heap.size + 1, 0, none⟩ = some (.string (mkS nm)) ∧ V.cell? ⟨w.heap.size + 1, 1, none⟩ = some (.slice bo m d) ∧ V.cell? ⟨w.heap.size + 1, 2, none⟩ = some (.int .i64 (q : Int))) ∧ Below w.heap.size w V) := by
      intro V hb
      have h0 := (hb.block w.heap.size (by omega)).trans e0
      have h1 := (hb.block (w.heap.size + 1) (by omega)).trans e1
      refine ⟨?_, hb2.trans (hb.mono (by omega))⟩
      refine ⟨?_, ?_, ?_, ?_, ?_, ?_⟩ <;> simp [World.cell?, h0, h1]
    have HC0 : Hid (∀ V, Below ((w.alloc (.cells #[.string (mkS nm), .slice ao n c, .int .i64 (q : Int)] 50)).alloc (.cells #[.string (mkS nm), .slice bo m d, .int .i64 (q : Int)] 50)).heap.size ((w.alloc (.cells #[.string (mkS nm), .slice ao n c, .int .i64 (q : Int)] 50)).alloc (.cells #[.string (mkS nm), .slice bo m d, .int .i64 (q : Int)] 50)) V → Calls Tryz.prog 112 #[.slice ao n c, .slice bo m d] V fun e w' => e = .returned (.bool true) ∧ Below V.heap.size V w') := by
      intro V hb
      have hbw := hb2.trans (hb.mono (by omega))
      exact SameWordRow_of ws _ _ _ _ _ _ Sa Sb V (ha.same _ _ _ (fun g hg => hbw.block g (At.lt _ _ _ ha g hg))) (hb'.same _ _ _ (fun g hg => hbw.block g (At.lt _ _ _ hb' g hg))) (fun x hx S S' vx vy ww => hrec x hx S S' vx vy ww)
    obtain ⟨⟨k0, k1, k2, j0, j1, j2⟩, _⟩ := HBX.out _ (Below.refl _ _)
    clear e0 e1 hb2 hs2
    go_enter Tryz.func119, Tryz.ntmps119
    go_wp2_with fail
    have HB := Lib.hid (Below.refl ((w.alloc (.cells #[.string (mkS nm), .slice ao n c, .int .i64 (q : Int)] 50)).alloc (.cells #[.string (mkS nm), .slice bo m d, .int .i64 (q : Int)] 50)).heap.size ((w.alloc (.cells #[.string (mkS nm), .slice ao n c, .int .i64 (q : Int)] 50)).alloc (.cells #[.string (mkS nm), .slice bo m d, .int .i64 (q : Int)] 50)))
    refine (HC0.out _ HB.out).mono ?_
    rintro e w3 ⟨rfl, hb0⟩
    have HB := Lib.hid (HB.out.trans (hb0.mono HB.out.size))
    clear hb0
    clear k0 k1 k2 j0 j1 j2
    obtain ⟨⟨k0, k1, k2, j0, j1, j2⟩, HBW⟩ := HBX.out _ HB.out
    have HBW := Lib.hid HBW
    go_wp2_with fail
    go_ret
    exact ⟨rfl, HBW.out⟩
  termination_by x => SizeOf.sizeOf x
  decreasing_by
    have := List.sizeOf_lt_of_mem hy
    simp
    omega
set_option maxHeartbeats 4000000 in
theorem SameAlt_one (x : Al) (S S' : List Nat) (vx vy : List Value) (w : World) (hx : AtL w (altC x) S vx) (hy : AtL w (altC x) S' vy) : Calls Tryz.prog 97 #[.agg vx.toArray, .agg vy.toArray] w fun e w' => e = .returned (.bool true) ∧ Below w.heap.size w w' := by
  obtain ⟨ao, n, c, Sa, rfl, ha⟩ := altParts hx
  obtain ⟨bo, m, d, Sb, rfl, hb'⟩ := altParts hy
  clear hx hy
  generalize IntKind.i64.wrap (x.where_ : Int) = wv
  obtain ⟨⟨e0, e1⟩, hb2, hs2⟩ := alloc2 w (.cells #[.slice ao n c, .string (mkS x.prec), .bool x.has, .string (mkS x.action), .int .i64 wv, .int .i64 (x.at_ : Int)] 47) (.cells #[.slice bo m d, .string (mkS x.prec), .bool x.has, .string (mkS x.action), .int .i64 wv, .int .i64 (x.at_ : Int)] 47)
  have HBX : Hid (∀ V, Below ((w.alloc (.cells #[.slice ao n c, .string (mkS x.prec), .bool x.has, .string (mkS x.action), .int .i64 wv, .int .i64 (x.at_ : Int)] 47)).alloc (.cells #[.slice bo m d, .string (mkS x.prec), .bool x.has, .string (mkS x.action), .int .i64 wv, .int .i64 (x.at_ : Int)] 47)).heap.size ((w.alloc (.cells #[.slice ao n c, .string (mkS x.prec), .bool x.has, .string (mkS x.action), .int .i64 wv, .int .i64 (x.at_ : Int)] 47)).alloc (.cells #[.slice bo m d, .string (mkS x.prec), .bool x.has, .string (mkS x.action), .int .i64 wv, .int .i64 (x.at_ : Int)] 47)) V → (V.cell? ⟨w.heap.size, 0, none⟩ = some (.slice ao n c) ∧ V.cell? ⟨w.heap.size, 1, none⟩ = some (.string (mkS x.prec)) ∧ V.cell? ⟨w.heap.size, 2, none⟩ = some (.bool x.has) ∧ V.cell? ⟨w.heap.size, 3, none⟩ = some (.string (mkS x.action)) ∧ V.cell? ⟨w.heap.size, 4, none⟩ = some (.int .i64 wv) ∧ V.cell? ⟨w.heap.size, 5, none⟩ = some (.int .i64 (x.at_ : Int)) ∧ V.cell? ⟨w.heap.size + 1, 0, none⟩ = some (.slice bo m d) ∧ V.cell? ⟨w.heap.size + 1, 1, none⟩ = some (.string (mkS x.prec)) ∧ V.cell? ⟨w.heap.size + 1, 2, none⟩ = some (.bool x.has) ∧ V.cell? ⟨w.heap.size + 1, 3, none⟩ = some (.string (mkS x.action)) ∧ V.cell? ⟨w.heap.size + 1, 4, none⟩ = some (.int .i64 wv) ∧ V.cell? ⟨w.heap.size + 1, 5, none⟩ = some (.int .i64 (x.at_ : Int))) ∧ Below w.heap.size w V) := by
    intro V hb
    have h0 := (hb.block w.heap.size (by omega)).trans e0
    have h1 := (hb.block (w.heap.size + 1) (by omega)).trans e1
    refine ⟨?_, hb2.trans (hb.mono (by omega))⟩
    refine ⟨?_, ?_, ?_, ?_, ?_, ?_, ?_, ?_, ?_, ?_, ?_, ?_⟩ <;> simp [World.cell?, h0, h1]
  have HC0 : Hid (∀ V, Below ((w.alloc (.cells #[.slice ao n c, .string (mkS x.prec), .bool x.has, .string (mkS x.action), .int .i64 wv, .int .i64 (x.at_ : Int)] 47)).alloc (.cells #[.slice bo m d, .string (mkS x.prec), .bool x.has, .string (mkS x.action), .int .i64 wv, .int .i64 (x.at_ : Int)] 47)).heap.size ((w.alloc (.cells #[.slice ao n c, .string (mkS x.prec), .bool x.has, .string (mkS x.action), .int .i64 wv, .int .i64 (x.at_ : Int)] 47)).alloc (.cells #[.slice bo m d, .string (mkS x.prec), .bool x.has, .string (mkS x.action), .int .i64 wv, .int .i64 (x.at_ : Int)] 47)) V → Calls Tryz.prog 112 #[.slice ao n c, .slice bo m d] V fun e w' => e = .returned (.bool true) ∧ Below V.heap.size V w') := by
    intro V hb
    have hbw := hb2.trans (hb.mono (by omega))
    exact SameWordRow_of x.words _ _ _ _ _ _ Sa Sb V (ha.same _ _ _ (fun g hg => hbw.block g (At.lt _ _ _ ha g hg))) (hb'.same _ _ _ (fun g hg => hbw.block g (At.lt _ _ _ hb' g hg))) (fun x hx S S' vx vy ww => SameWord_one x S S' vx vy ww)
  obtain ⟨⟨k0, k1, k2, k3, k4, k5, j0, j1, j2, j3, j4, j5⟩, _⟩ := HBX.out _ (Below.refl _ _)
  clear e0 e1 hb2 hs2
  go_enter Tryz.func97, Tryz.ntmps97
  go_wp2_with fail
  have HB := Lib.hid (Below.refl ((w.alloc (.cells #[.slice ao n c, .string (mkS x.prec), .bool x.has, .string (mkS x.action), .int .i64 wv, .int .i64 (x.at_ : Int)] 47)).alloc (.cells #[.slice bo m d, .string (mkS x.prec), .bool x.has, .string (mkS x.action), .int .i64 wv, .int .i64 (x.at_ : Int)] 47)).heap.size ((w.alloc (.cells #[.slice ao n c, .string (mkS x.prec), .bool x.has, .string (mkS x.action), .int .i64 wv, .int .i64 (x.at_ : Int)] 47)).alloc (.cells #[.slice bo m d, .string (mkS x.prec), .bool x.has, .string (mkS x.action), .int .i64 wv, .int .i64 (x.at_ : Int)] 47)))
  refine (HC0.out _ HB.out).mono ?_
  rintro e w3 ⟨rfl, hb0⟩
  have HB := Lib.hid (HB.out.trans (hb0.mono HB.out.size))
  clear hb0
  clear k0 k1 k2 k3 k4 k5 j0 j1 j2 j3 j4 j5
  obtain ⟨⟨k0, k1, k2, k3, k4, k5, j0, j1, j2, j3, j4, j5⟩, HBW⟩ := HBX.out _ HB.out
  have HBW := Lib.hid HBW
  go_wp2_with fail
  go_ret
  exact ⟨rfl, HBW.out⟩
set_option maxHeartbeats 4000000 in
theorem SameRule_one (x : Ru) (S S' : List Nat) (vx vy : List Value) (w : World) (hx : AtL w (ruleC x) S vx) (hy : AtL w (ruleC x) S' vy) : Calls Tryz.prog 39 #[.agg vx.toArray, .agg vy.toArray] w fun e w' => e = .returned (.bool true) ∧ Below w.heap.size w w' := by
  obtain ⟨ao, n, c, Sa, bo, m, d, Sb, rfl, ha, hb'⟩ := ruleParts hx
  obtain ⟨ao2, n2, c2, Sa2, bo2, m2, d2, Sb2, rfl, ha2, hb2'⟩ := ruleParts hy
  clear hx hy
  obtain ⟨⟨e0, e1⟩, hb2, hs2⟩ := alloc2 w (.cells #[.string (mkS x.name), .slice ao n c, .slice bo m d, .int .i64 (x.at_ : Int)] 44) (.cells #[.string (mkS x.name), .slice ao2 n2 c2, .slice bo2 m2 d2, .int .i64 (x.at_ : Int)] 44)
  have HBX : Hid (∀ V, Below ((w.alloc (.cells #[.string (mkS x.name), .slice ao n c, .slice bo m d, .int .i64 (x.at_ : Int)] 44)).alloc (.cells #[.string (mkS x.name), .slice ao2 n2 c2, .slice bo2 m2 d2, .int .i64 (x.at_ : Int)] 44)).heap.size ((w.alloc (.cells #[.string (mkS x.name), .slice ao n c, .slice bo m d, .int .i64 (x.at_ : Int)] 44)).alloc (.cells #[.string (mkS x.name), .slice ao2 n2 c2, .slice bo2 m2 d2, .int .i64 (x.at_ : Int)] 44)) V → (V.cell? ⟨w.heap.size, 0, none⟩ = some (.string (mkS x.name)) ∧ V.cell? ⟨w.heap.size, 1, none⟩ = some (.slice ao n c) ∧ V.cell? ⟨w.heap.size, 2, none⟩ = some (.slice bo m d) ∧ V.cell? ⟨w.heap.size, 3, none⟩ = some (.int .i64 (x.at_ : Int)) ∧ V.cell? ⟨w.heap.size + 1, 0, none⟩ = some (.string (mkS x.name)) ∧ V.cell? ⟨w.heap.size + 1, 1, none⟩ = some (.slice ao2 n2 c2) ∧ V.cell? ⟨w.heap.size + 1, 2, none⟩ = some (.slice bo2 m2 d2) ∧ V.cell? ⟨w.heap.size + 1, 3, none⟩ = some (.int .i64 (x.at_ : Int))) ∧ Below w.heap.size w V) := by
    intro V hb
    have h0 := (hb.block w.heap.size (by omega)).trans e0
    have h1 := (hb.block (w.heap.size + 1) (by omega)).trans e1
    refine ⟨?_, hb2.trans (hb.mono (by omega))⟩
    refine ⟨?_, ?_, ?_, ?_, ?_, ?_, ?_, ?_⟩ <;> simp [World.cell?, h0, h1]
  have HC0 : Hid (∀ V, Below ((w.alloc (.cells #[.string (mkS x.name), .slice ao n c, .slice bo m d, .int .i64 (x.at_ : Int)] 44)).alloc (.cells #[.string (mkS x.name), .slice ao2 n2 c2, .slice bo2 m2 d2, .int .i64 (x.at_ : Int)] 44)).heap.size ((w.alloc (.cells #[.string (mkS x.name), .slice ao n c, .slice bo m d, .int .i64 (x.at_ : Int)] 44)).alloc (.cells #[.string (mkS x.name), .slice ao2 n2 c2, .slice bo2 m2 d2, .int .i64 (x.at_ : Int)] 44)) V → Calls Tryz.prog 69 #[.slice ao n c, .slice ao2 n2 c2] V fun e w' => e = .returned (.bool true) ∧ Below V.heap.size V w') := by
    intro V hb
    have hbw := hb2.trans (hb.mono (by omega))
    exact SameTexts_one x.params _ _ _ _ _ _ Sa Sa2 V (ha.same _ _ _ (fun g hg => hbw.block g (At.lt _ _ _ ha g hg))) (ha2.same _ _ _ (fun g hg => hbw.block g (At.lt _ _ _ ha2 g hg)))
  have HC1 : Hid (∀ V, Below ((w.alloc (.cells #[.string (mkS x.name), .slice ao n c, .slice bo m d, .int .i64 (x.at_ : Int)] 44)).alloc (.cells #[.string (mkS x.name), .slice ao2 n2 c2, .slice bo2 m2 d2, .int .i64 (x.at_ : Int)] 44)).heap.size ((w.alloc (.cells #[.string (mkS x.name), .slice ao n c, .slice bo m d, .int .i64 (x.at_ : Int)] 44)).alloc (.cells #[.string (mkS x.name), .slice ao2 n2 c2, .slice bo2 m2 d2, .int .i64 (x.at_ : Int)] 44)) V → Calls Tryz.prog 70 #[.slice bo m d, .slice bo2 m2 d2] V fun e w' => e = .returned (.bool true) ∧ Below V.heap.size V w') := by
    intro V hb
    have hbw := hb2.trans (hb.mono (by omega))
    exact SameAlts_of x.alts _ _ _ _ _ _ Sb Sb2 V (hb'.same _ _ _ (fun g hg => hbw.block g (At.lt _ _ _ hb' g hg))) (hb2'.same _ _ _ (fun g hg => hbw.block g (At.lt _ _ _ hb2' g hg))) (fun x hx S S' vx vy ww => SameAlt_one x S S' vx vy ww)
  obtain ⟨⟨k0, k1, k2, k3, j0, j1, j2, j3⟩, _⟩ := HBX.out _ (Below.refl _ _)
  clear e0 e1 hb2 hs2
  go_enter Tryz.func39, Tryz.ntmps39
  go_wp2_with fail
  have HB := Lib.hid (Below.refl ((w.alloc (.cells #[.string (mkS x.name), .slice ao n c, .slice bo m d, .int .i64 (x.at_ : Int)] 44)).alloc (.cells #[.string (mkS x.name), .slice ao2 n2 c2, .slice bo2 m2 d2, .int .i64 (x.at_ : Int)] 44)).heap.size ((w.alloc (.cells #[.string (mkS x.name), .slice ao n c, .slice bo m d, .int .i64 (x.at_ : Int)] 44)).alloc (.cells #[.string (mkS x.name), .slice ao2 n2 c2, .slice bo2 m2 d2, .int .i64 (x.at_ : Int)] 44)))
  refine (HC0.out _ HB.out).mono ?_
  rintro e w3 ⟨rfl, hb0⟩
  have HB := Lib.hid (HB.out.trans (hb0.mono HB.out.size))
  clear hb0
  clear k0 k1 k2 k3 j0 j1 j2 j3
  obtain ⟨⟨k0, k1, k2, k3, j0, j1, j2, j3⟩, HBW⟩ := HBX.out _ HB.out
  have HBW := Lib.hid HBW
  go_wp2_with fail
  refine (HC1.out _ HB.out).mono ?_
  rintro e w4 ⟨rfl, hb1⟩
  have HB := Lib.hid (HB.out.trans (hb1.mono HB.out.size))
  clear hb1
  clear k0 k1 k2 k3 j0 j1 j2 j3
  obtain ⟨⟨k0, k1, k2, k3, j0, j1, j2, j3⟩, HBW⟩ := HBX.out _ HB.out
  have HBW := Lib.hid HBW
  go_wp2_with fail
  go_ret
  exact ⟨rfl, HBW.out⟩
set_option maxHeartbeats 4000000 in
theorem SameDecl_one (x : De) (S S' : List Nat) (vx vy : List Value) (w : World) (hx : AtL w (declC x) S vx) (hy : AtL w (declC x) S' vy) : Calls Tryz.prog 38 #[.agg vx.toArray, .agg vy.toArray] w fun e w' => e = .returned (.bool true) ∧ Below w.heap.size w w' := by
  obtain ⟨ao, n, c, Sa, rfl, ha⟩ := declParts hx
  obtain ⟨ao2, n2, c2, Sa2, rfl, ha2⟩ := declParts hy
  clear hx hy
  obtain ⟨⟨e0, e1⟩, hb2, hs2⟩ := alloc2 w (.cells #[.string (mkS x.kind), .string (mkS x.type), .slice ao n c, .int .i64 (x.at_ : Int)] 41) (.cells #[.string (mkS x.kind), .string (mkS x.type), .slice ao2 n2 c2, .int .i64 (x.at_ : Int)] 41)
  have HBX : Hid (∀ V, Below ((w.alloc (.cells #[.string (mkS x.kind), .string (mkS x.type), .slice ao n c, .int .i64 (x.at_ : Int)] 41)).alloc (.cells #[.string (mkS x.kind), .string (mkS x.type), .slice ao2 n2 c2, .int .i64 (x.at_ : Int)] 41)).heap.size ((w.alloc (.cells #[.string (mkS x.kind), .string (mkS x.type), .slice ao n c, .int .i64 (x.at_ : Int)] 41)).alloc (.cells #[.string (mkS x.kind), .string (mkS x.type), .slice ao2 n2 c2, .int .i64 (x.at_ : Int)] 41)) V → (V.cell? ⟨w.heap.size, 0, none⟩ = some (.string (mkS x.kind)) ∧ V.cell? ⟨w.heap.size, 1, none⟩ = some (.string (mkS x.type)) ∧ V.cell? ⟨w.heap.size, 2, none⟩ = some (.slice ao n c) ∧ V.cell? ⟨w.heap.size, 3, none⟩ = some (.int .i64 (x.at_ : Int)) ∧ V.cell? ⟨w.heap.size + 1, 0, none⟩ = some (.string (mkS x.kind)) ∧ V.cell? ⟨w.heap.size + 1, 1, none⟩ = some (.string (mkS x.type)) ∧ V.cell? ⟨w.heap.size + 1, 2, none⟩ = some (.slice ao2 n2 c2) ∧ V.cell? ⟨w.heap.size + 1, 3, none⟩ = some (.int .i64 (x.at_ : Int))) ∧ Below w.heap.size w V) := by
    intro V hb
    have h0 := (hb.block w.heap.size (by omega)).trans e0
    have h1 := (hb.block (w.heap.size + 1) (by omega)).trans e1
    refine ⟨?_, hb2.trans (hb.mono (by omega))⟩
    refine ⟨?_, ?_, ?_, ?_, ?_, ?_, ?_, ?_⟩ <;> simp [World.cell?, h0, h1]
  have HC0 : Hid (∀ V, Below ((w.alloc (.cells #[.string (mkS x.kind), .string (mkS x.type), .slice ao n c, .int .i64 (x.at_ : Int)] 41)).alloc (.cells #[.string (mkS x.kind), .string (mkS x.type), .slice ao2 n2 c2, .int .i64 (x.at_ : Int)] 41)).heap.size ((w.alloc (.cells #[.string (mkS x.kind), .string (mkS x.type), .slice ao n c, .int .i64 (x.at_ : Int)] 41)).alloc (.cells #[.string (mkS x.kind), .string (mkS x.type), .slice ao2 n2 c2, .int .i64 (x.at_ : Int)] 41)) V → Calls Tryz.prog 69 #[.slice ao n c, .slice ao2 n2 c2] V fun e w' => e = .returned (.bool true) ∧ Below V.heap.size V w') := by
    intro V hb
    have hbw := hb2.trans (hb.mono (by omega))
    exact SameTexts_one x.names _ _ _ _ _ _ Sa Sa2 V (ha.same _ _ _ (fun g hg => hbw.block g (At.lt _ _ _ ha g hg))) (ha2.same _ _ _ (fun g hg => hbw.block g (At.lt _ _ _ ha2 g hg)))
  obtain ⟨⟨k0, k1, k2, k3, j0, j1, j2, j3⟩, _⟩ := HBX.out _ (Below.refl _ _)
  clear e0 e1 hb2 hs2
  go_enter Tryz.func38, Tryz.ntmps38
  go_wp2_with fail
  have HB := Lib.hid (Below.refl ((w.alloc (.cells #[.string (mkS x.kind), .string (mkS x.type), .slice ao n c, .int .i64 (x.at_ : Int)] 41)).alloc (.cells #[.string (mkS x.kind), .string (mkS x.type), .slice ao2 n2 c2, .int .i64 (x.at_ : Int)] 41)).heap.size ((w.alloc (.cells #[.string (mkS x.kind), .string (mkS x.type), .slice ao n c, .int .i64 (x.at_ : Int)] 41)).alloc (.cells #[.string (mkS x.kind), .string (mkS x.type), .slice ao2 n2 c2, .int .i64 (x.at_ : Int)] 41)))
  refine (HC0.out _ HB.out).mono ?_
  rintro e w3 ⟨rfl, hb0⟩
  have HB := Lib.hid (HB.out.trans (hb0.mono HB.out.size))
  clear hb0
  clear k0 k1 k2 k3 j0 j1 j2 j3
  obtain ⟨⟨k0, k1, k2, k3, j0, j1, j2, j3⟩, HBW⟩ := HBX.out _ HB.out
  have HBW := Lib.hid HBW
  go_wp2_with fail
  go_ret
  exact ⟨rfl, HBW.out⟩
set_option maxHeartbeats 4000000 in
theorem SameSource_one (x : Tx) (S S' : List Nat) (vx vy : List Value) (w : World) (hx : AtL w (textC x) S vx) (hy : AtL w (textC x) S' vy) : Calls Tryz.prog 9 #[.agg vx.toArray, .agg vy.toArray] w fun e w' => e = .returned (.bool true) ∧ Below w.heap.size w w' := by
  obtain ⟨ao, n, c, Sa, bo, m, d, Sb, rfl, ha, hb'⟩ := textParts hx
  obtain ⟨ao2, n2, c2, Sa2, bo2, m2, d2, Sb2, rfl, ha2, hb2'⟩ := textParts hy
  clear hx hy
  obtain ⟨⟨e0, e1⟩, hb2, hs2⟩ := alloc2 w (.cells #[.slice ao n c, .slice bo m d] 25) (.cells #[.slice ao2 n2 c2, .slice bo2 m2 d2] 25)
  have HBX : Hid (∀ V, Below ((w.alloc (.cells #[.slice ao n c, .slice bo m d] 25)).alloc (.cells #[.slice ao2 n2 c2, .slice bo2 m2 d2] 25)).heap.size ((w.alloc (.cells #[.slice ao n c, .slice bo m d] 25)).alloc (.cells #[.slice ao2 n2 c2, .slice bo2 m2 d2] 25)) V → (V.cell? ⟨w.heap.size, 0, none⟩ = some (.slice ao n c) ∧ V.cell? ⟨w.heap.size, 1, none⟩ = some (.slice bo m d) ∧ V.cell? ⟨w.heap.size + 1, 0, none⟩ = some (.slice ao2 n2 c2) ∧ V.cell? ⟨w.heap.size + 1, 1, none⟩ = some (.slice bo2 m2 d2)) ∧ Below w.heap.size w V) := by
    intro V hb
    have h0 := (hb.block w.heap.size (by omega)).trans e0
    have h1 := (hb.block (w.heap.size + 1) (by omega)).trans e1
    refine ⟨?_, hb2.trans (hb.mono (by omega))⟩
    refine ⟨?_, ?_, ?_, ?_⟩ <;> simp [World.cell?, h0, h1]
  have HC0 : Hid (∀ V, Below ((w.alloc (.cells #[.slice ao n c, .slice bo m d] 25)).alloc (.cells #[.slice ao2 n2 c2, .slice bo2 m2 d2] 25)).heap.size ((w.alloc (.cells #[.slice ao n c, .slice bo m d] 25)).alloc (.cells #[.slice ao2 n2 c2, .slice bo2 m2 d2] 25)) V → Calls Tryz.prog 21 #[.slice ao n c, .slice ao2 n2 c2] V fun e w' => e = .returned (.bool true) ∧ Below V.heap.size V w') := by
    intro V hb
    have hbw := hb2.trans (hb.mono (by omega))
    exact SameDecls_of x.decls _ _ _ _ _ _ Sa Sa2 V (ha.same _ _ _ (fun g hg => hbw.block g (At.lt _ _ _ ha g hg))) (ha2.same _ _ _ (fun g hg => hbw.block g (At.lt _ _ _ ha2 g hg))) (fun x hx S S' vx vy ww => SameDecl_one x S S' vx vy ww)
  have HC1 : Hid (∀ V, Below ((w.alloc (.cells #[.slice ao n c, .slice bo m d] 25)).alloc (.cells #[.slice ao2 n2 c2, .slice bo2 m2 d2] 25)).heap.size ((w.alloc (.cells #[.slice ao n c, .slice bo m d] 25)).alloc (.cells #[.slice ao2 n2 c2, .slice bo2 m2 d2] 25)) V → Calls Tryz.prog 22 #[.slice bo m d, .slice bo2 m2 d2] V fun e w' => e = .returned (.bool true) ∧ Below V.heap.size V w') := by
    intro V hb
    have hbw := hb2.trans (hb.mono (by omega))
    exact SameRules_of x.rules _ _ _ _ _ _ Sb Sb2 V (hb'.same _ _ _ (fun g hg => hbw.block g (At.lt _ _ _ hb' g hg))) (hb2'.same _ _ _ (fun g hg => hbw.block g (At.lt _ _ _ hb2' g hg))) (fun x hx S S' vx vy ww => SameRule_one x S S' vx vy ww)
  obtain ⟨⟨k0, k1, j0, j1⟩, _⟩ := HBX.out _ (Below.refl _ _)
  clear e0 e1 hb2 hs2
  go_enter Tryz.func9, Tryz.ntmps9
  go_wp2_with fail
  have HB := Lib.hid (Below.refl ((w.alloc (.cells #[.slice ao n c, .slice bo m d] 25)).alloc (.cells #[.slice ao2 n2 c2, .slice bo2 m2 d2] 25)).heap.size ((w.alloc (.cells #[.slice ao n c, .slice bo m d] 25)).alloc (.cells #[.slice ao2 n2 c2, .slice bo2 m2 d2] 25)))
  refine (HC0.out _ HB.out).mono ?_
  rintro e w3 ⟨rfl, hb0⟩
  have HB := Lib.hid (HB.out.trans (hb0.mono HB.out.size))
  clear hb0
  clear k0 k1 j0 j1
  obtain ⟨⟨k0, k1, j0, j1⟩, HBW⟩ := HBX.out _ HB.out
  have HBW := Lib.hid HBW
  go_wp2_with fail
  refine (HC1.out _ HB.out).mono ?_
  rintro e w4 ⟨rfl, hb1⟩
  have HB := Lib.hid (HB.out.trans (hb1.mono HB.out.size))
  clear hb1
  clear k0 k1 j0 j1
  obtain ⟨⟨k0, k1, j0, j1⟩, HBW⟩ := HBX.out _ HB.out
  have HBW := Lib.hid HBW
  go_wp2_with fail
  go_ret
  exact ⟨rfl, HBW.out⟩
end Go.Proofs.YtngimijiafnheaaGreat
