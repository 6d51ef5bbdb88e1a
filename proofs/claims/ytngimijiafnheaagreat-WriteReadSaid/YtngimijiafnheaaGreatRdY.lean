/- Copies of texts, words, alternatives, rules, declarations, of a whole text. -/
import Derived.Test.YtngimijiafnheaaGreatRdX
set_option maxRecDepth 100000
set_option linter.unusedSimpArgs false
namespace LexT
open Go Go.RowKit
set_option linter.unusedVariables false
abbrev three (w : World) (p : Nat) (x y z : Value) : World := ((w.setCell ⟨p, 0, none⟩ x).setCell ⟨p, 1, none⟩ y).setCell ⟨p, 2, none⟩ z
mutual
/-- How many words there are. -/
def wdN : Wd → Nat
  | .mk _ ws _ => wdsN ws + 1
def wdsN : List Wd → Nat
  | [] => 0
  | x :: xs => wdN x + wdsN xs
end
theorem wdYtngimijiafnheaaGreatmem : ∀ (ws : List Wd) (y : Wd), y ∈ ws → wdN y ≤ wdsN ws
  | [], y, h => by simp at h
  | x :: xs, y, h => by
    rcases List.mem_cons.1 h with rfl | h
    · simp [wdsN]
    · have := wdYtngimijiafnheaaGreatmem xs y h; simp [wdsN]; omega
theorem wdYtngimijiafnheaaGreatpos (x : Wd) : 1 ≤ wdN x := by cases x; simp [wdN]
theorem wdsYtngimijiafnheaaGreatlength : ∀ ws : List Wd, ws.length ≤ wdsN ws
  | [] => by simp
  | x :: xs => by have := wdYtngimijiafnheaaGreatpos x; have := wdsYtngimijiafnheaaGreatlength xs; simp [wdsN]; omega
/-- A text of which nothing is too long. -/
def smallA (a : Al) : Prop := wdsN a.words ≤ 100000
def smallR (r : Ru) : Prop := r.params.length ≤ 100000 ∧ r.alts.length ≤ 100000 ∧ ∀ a ∈ r.alts, smallA a
def smallT (x : Tx) : Prop := x.decls.length ≤ 100000 ∧ (∀ d ∈ x.decls, d.names.length ≤ 100000) ∧ x.rules.length ≤ 100000 ∧ ∀ r ∈ x.rules, smallR r
theorem strs_of {w : World} : ∀ (xs : List Bs) (S : List Nat) (v : List Value), AtL w (xs.map strC) S v → v = xs.map fun s => Value.string (mkS s)
  | [], S, v, h => by simpa using h.unnil
  | x :: xs, S, v, h => by
    obtain ⟨S1, S2, x1, xs1, rfl, rfl, h1, h2⟩ := AtL.uncons (c := strC x) (cs := xs.map strC) h
    obtain rfl := At.unplain h1
    rw [strs_of xs S2 xs1 h2]; rfl
end LexT
namespace Go.Proofs.YtngimijiafnheaaGreat
open Go.Instr Go.RowKit LexT
set_option linter.unusedVariables false
set_option maxHeartbeats 2000000 in
theorem CopyTexts_of (xs : List Bs) (a : Option Addr) (n ca : Nat) (S : List Nat) (w : World) (ha : At w (.row 9 1 (xs.map strC)) S (.slice a n ca)) (hl : xs.length ≤ 100000) :
    Calls Tryz.prog 98 #[.slice a n ca] w (RowP 9 1 (xs.map strC) w) := by
  have hn : xs.length = n := by have := ha.count; simpa using this
  subst hn
  obtain ⟨i0, hi0, hz0, hz1, hz2⟩ := info_parts Tryz.infoStr
  have h0 := ha
  unfold At at h0
  obtain ⟨nn, xo, So, a1, a2, rfl, a4⟩ := h0
  have hnn : nn = xs.length := by simpa using a1.symm
  subst hnn
  have hxo := strs_of _ _ _ a4
  rcases a2.2 with ⟨hv, hx0⟩ | ⟨g, cap, cur, hv, hb, hg, hrest⟩
  · injection hv with e1 e2 e3
    have hx : xs = [] := List.eq_nil_of_length_eq_zero hx0
    subst hx e1 e3
    have hap : (Builtin.append_ #[39, 39] 39 #[.slice none 0 0, .slice none 0 0]).run Tryz.prog w = .ok (.slice none 0 0) w := run_append_owned_none (P := Tryz.prog) (w := w) 0 39 39 9 i0 1 Tryz.underlying39 hi0 (.slice none 0 0) 0 [] (World.ownsRow_nil w 0 9 1)
    clear hi0 hz0 hz1 hz2 ha a1 a2 a4 hxo hl hx0
    go_enter Tryz.func98, Tryz.ntmps98
    go_wp2_with fail
    go_ret
    exact ⟨none, 0, 0, [], rfl, by simpa using At.empty w 9 1, List.nodup_nil, by simp, Below.refl _ _⟩
  · injection hv with e1 e2 e3
    subst e1 e3
    have HC := Lib.hid (a2.cells (g := g) rfl)
    have HI := Lib.hid hi0
    have HZ := Lib.hid (And.intro hz0 (And.intro hz1 hz2))
    have HA := Lib.hid (And.intro a4 (And.intro a2.1 hl))
    have HX := Lib.hid hxo
    clear hi0 hz0 hz1 hz2 ha a1 a2 a4 hxo hl hb hg hrest
    go_enter Tryz.func98, Tryz.ntmps98
    go_wp2_with (at_builtin; refine wpList_append_r rfl _ _ 39 rfl 9 i0 _ 1 16 Tryz.underlying39 HI.out HZ.out.1 HZ.out.2.1 HZ.out.2.2 rfl (by decide) _ 0 [] rfl (World.ownsRow_nil _ 0 9 1) ⟨g, 0, none⟩ xs.length ca rfl xo HA.out.2.1 HC.out (by rw [HX.out]; intro u hu; obtain ⟨s, _, rfl⟩ := List.mem_map.1 hu; rfl) (by have := HA.out.2.2; unfold maxLen; omega) (by have := HA.out.2.2; omega) ?_; intro v4 W4 ho4 hg4 hnew4)
    obtain ⟨ao4, c4, hv4⟩ := own_form ho4
    subst hv4
    have hAl : AtL w (xs.map strC) [] xo := by rw [HX.out]; exact strs_at w xs
    obtain ⟨S5, hat5, hnd5, hge5⟩ := At.push (W := w) (w := w) (T := 9) (k := 1) (cs := []) (S := []) (v := .slice none 0 0) (n := 0) (m := xs.length) (xs := []) (by simp) ⟨[], World.ownsRow_nil w 0 9 1, by simp [ownL, Value.ownBlock], AtL.nil w⟩ hAl (by simp) List.nodup_nil ho4 hg4 hnew4
    have H5 := Lib.hid (And.intro hat5 (And.intro hnd5 hge5))
    have HB : Hid (Below w.heap.size w W4) := (Below.refl _ _).grown hg4 (Nat.le_refl _) (fun k hk => by cases hk)
    clear hat5 hnd5 hge5 ho4 hg4 hnew4 hAl
    go_wp2_with fail
    go_ret
    refine ⟨_, _, _, S5, rfl, by simpa using H5.out.1, H5.out.2.1, fun s hs => ?_, HB.out⟩
    rcases H5.out.2.2 s hs with h9 | h9 | h9
    · simp at h9
    · simp at h9
    · exact h9
set_option maxHeartbeats 4000000 in
theorem CopyWord_step (nm : Bs) (ws : List Wd) (q : Nat) (hwl : ws.length ≤ 100000) (hrec : ∀ y ∈ ws, ∀ (S : List Nat) (vx : List Value) (w : World), AtL w (wdC 50 y) S vx → Calls Tryz.prog 127 #[.agg vx.toArray] w (CopP (wdC 50 y) w)) (S : List Nat) (vx : List Value) (w : World) (hx : AtL w (wdC 50 (.mk nm ws q)) S vx) : Calls Tryz.prog 127 #[.agg vx.toArray] w (CopP (wdC 50 (.mk nm ws q)) w) := by
  obtain ⟨ao, nn, c, Sa, rfl, ha⟩ := wordParts hx
  clear hx
  obtain ⟨⟨e0, e1⟩, hb2, hs2⟩ := alloc2 w (.cells #[.string (mkS nm), .slice ao nn c, .int .i64 (q : Int)] 50) (.cells #[.string ⟨#[]⟩, .slice none 0 0, .int .i64 0] 50)
  obtain ⟨V0, hV0⟩ : ∃ V, V = (w.alloc (.cells #[.string (mkS nm), .slice ao nn c, .int .i64 (q : Int)] 50)).alloc (.cells #[.string ⟨#[]⟩, .slice none 0 0, .int .i64 0] 50) := ⟨_, rfl⟩
  rw [← hV0] at e0 e1 hb2 hs2
  have HV0 := Lib.hid hV0
  clear hV0
  have HB0 := Lib.hid (And.intro hb2 (And.intro e0 e1))
  have HS := Lib.hid hs2
  obtain ⟨⟨g0, g1, g2⟩, _⟩ := three_facts e0
  clear e0 e1 hb2 hs2
  have HC0 : Hid (Calls Tryz.prog 120 #[.slice ao nn c] V0 (RowP 50 3 (ws.flatMap (wdC 50)) V0)) := by
    have hbw := HB0.out.1
    exact CopyWordRow_of ws _ _ _ Sa V0 (ha.same _ _ _ (fun g hg => hbw.block g (At.lt _ _ _ ha g hg))) hwl hrec
  go_enter Tryz.func127, Tryz.ntmps127
  go_upto_region 1 with fail
  rw [← HV0.out]
  go_wp2_with fail
  refine HC0.out.mono ?_
  rintro e w1 ⟨yo0, yn0, yc0, S0, rfl, hat, hnd, hge, hbc⟩
  have HY0 := Lib.hid (And.intro hat (And.intro hnd hge))
  clear g0 g1 g2
  have E0 := (hbc.block w.heap.size (by have := HS.out; omega)).trans HB0.out.2.1
  have E1 := (hbc.block (w.heap.size + 1) (by have := HS.out; omega)).trans HB0.out.2.2
  obtain ⟨⟨g0, g1, g2⟩, ⟨z0, z1, z2⟩⟩ := three_facts E0
  have HB1 : Hid (Below w.heap.size w (w1.setCell ⟨w.heap.size, 1, none⟩ (.slice yo0 yn0 yc0)) ∧ (w1.setCell ⟨w.heap.size, 1, none⟩ (.slice yo0 yn0 yc0)).heap[w.heap.size]? = some (.cells #[.string (mkS nm), .slice yo0 yn0 yc0, .int .i64 (q : Int)] 50 (0, 0)) ∧ (w1.setCell ⟨w.heap.size, 1, none⟩ (.slice yo0 yn0 yc0)).heap[w.heap.size + 1]? = some (.cells #[.string ⟨#[]⟩, .slice none 0 0, .int .i64 0] 50 (0, 0)) ∧ w.heap.size + 2 ≤ (w1.setCell ⟨w.heap.size, 1, none⟩ (.slice yo0 yn0 yc0)).heap.size) := by
    refine ⟨(HB0.out.1.trans (hbc.mono HB0.out.1.size)).setCell (p := ⟨w.heap.size, 1, none⟩) (Nat.le_refl _) _, ?_, ?_, ?_⟩
    · rw [heap_setCell_same _ _ 1 _ _ _ E0]; rfl
    · rw [Below.heap_setCell _ _ _ _ (by show w.heap.size + 1 ≠ w.heap.size; omega)]; exact E1
    · have := hbc.size
      have := HS.out

      simp [World.setCell]
      omega
  have HZ0 := Lib.hid hbc.size
  clear E0 E1 hat hnd hge hbc
  go_upto_region 2 with fail
  clear g0 g1 g2 z0 z1 z2
  obtain ⟨V1, hV⟩ : ∃ V, V = w1.setCell ⟨w.heap.size, 1, none⟩ (.slice yo0 yn0 yc0) := ⟨_, rfl⟩
  have HY0 : Hid (At V1 (.row 50 3 (ws.flatMap (wdC 50))) S0 (.slice yo0 yn0 yc0) ∧ S0.Nodup ∧ ∀ s ∈ S0, V0.heap.size ≤ s) := ⟨by rw [hV]; exact HY0.out.1.same _ _ _ (fun g hg => Below.heap_setCell _ _ _ _ (by have := HY0.out.2.2 g hg; have := HS.out; show g ≠ w.heap.size; omega)), HY0.out.2⟩
  rw [← hV] at HB1 ⊢
  have HW1 : Hid (V1.heap.size = w1.heap.size) := by show _ = _; rw [hV]; simp [World.setCell]
  clear hV
  obtain ⟨⟨g0, g1, g2⟩, _⟩ := three_facts HB1.out.2.1
  obtain ⟨⟨q0, q1, q2⟩, ⟨u0, u1, u2⟩⟩ := three_facts HB1.out.2.2.1
  go_wp2_with fail
  refine bodyPost_ret (v := .agg #[.string (mkS nm), .slice yo0 yn0 yc0, .int .i64 (q : Int)]) (by simp [results, Tryz.results127, go_sem, q0, q1, q2]) rfl ?_
  have hlow := three_low w.heap.size V1 (w.heap.size + 1) (.string (mkS nm)) (.slice yo0 yn0 yc0) (.int .i64 (q : Int)) (by omega)
  have hs := HS.out
  refine ⟨[.string (mkS nm), .slice yo0 yn0 yc0, .int .i64 (q : Int)], S0, rfl, ?_, ?_, ?_, HB1.out.1.trans hlow⟩
  · have a0 : At (three V1 (w.heap.size + 1) (.string (mkS nm)) (.slice yo0 yn0 yc0) (.int .i64 (q : Int))) (.row 50 3 (ws.flatMap (wdC 50))) S0 (.slice yo0 yn0 yc0) := HY0.out.1.same _ _ _ (fun g hg => three_same _ _ _ _ _ _ (by have := HY0.out.2.2 g hg; omega))
    unfold wdC
    rw [wdsC_flat]
    have := AtL.plainCons (v := .string (mkS nm)) (AtL.cons a0 (AtL.plainCons (v := .int .i64 (q : Int)) (AtL.nil _)))
    rw [List.append_nil] at this
    exact this
  · exact HY0.out.2.1
  · intro s hs'
    have := HY0.out.2.2 s hs'
    omega
theorem CopyWord_of : (x : Wd) → (hx : wdN x ≤ 100000) → (S : List Nat) → (vx : List Value) → (w : World) → AtL w (wdC 50 x) S vx → Calls Tryz.prog 127 #[.agg vx.toArray] w (CopP (wdC 50 x) w)
  | .mk nm ws q, hx, S, vx, w, hxa => by
    have hrec : ∀ y ∈ ws, ∀ (S : List Nat) (vx : List Value) (w : World), AtL w (wdC 50 y) S vx → Calls Tryz.prog 127 #[.agg vx.toArray] w (CopP (wdC 50 y) w) := fun y hy S vx w h => CopyWord_of y (by have := wdYtngimijiafnheaaGreatmem ws y hy; simp [wdN] at hx; omega) S vx w h
    have hwl : ws.length ≤ 100000 := by have := wdsYtngimijiafnheaaGreatlength ws; simp [wdN] at hx; omega
    exact CopyWord_step nm ws q hwl hrec S vx w hxa
  termination_by x => SizeOf.sizeOf x
  decreasing_by
    have := List.sizeOf_lt_of_mem hy
    simp
    omega
set_option maxHeartbeats 4000000 in
theorem CopyAlt_of (x : Al) (hsm : smallA x) (S : List Nat) (vx : List Value) (w : World) (hx : AtL w (altC x) S vx) : Calls Tryz.prog 113 #[.agg vx.toArray] w (CopP (altC x) w) := by
  obtain ⟨ao, nn, c, Sa, rfl, ha⟩ := altParts hx
  clear hx
  obtain ⟨wv, hwv⟩ : ∃ wv : Int, IntKind.i64.wrap (x.where_ : Int) = wv := ⟨_, rfl⟩
  rw [hwv]
  have HWV := Lib.hid hwv
  clear hwv
  obtain ⟨⟨e0, e1⟩, hb2, hs2⟩ := alloc2 w (.cells #[.slice ao nn c, .string (mkS x.prec), .bool x.has, .string (mkS x.action), .int .i64 wv, .int .i64 (x.at_ : Int)] 47) (.cells #[.slice none 0 0, .string ⟨#[]⟩, .bool false, .string ⟨#[]⟩, .int .i64 0, .int .i64 0] 47)
  obtain ⟨V0, hV0⟩ : ∃ V, V = (w.alloc (.cells #[.slice ao nn c, .string (mkS x.prec), .bool x.has, .string (mkS x.action), .int .i64 wv, .int .i64 (x.at_ : Int)] 47)).alloc (.cells #[.slice none 0 0, .string ⟨#[]⟩, .bool false, .string ⟨#[]⟩, .int .i64 0, .int .i64 0] 47) := ⟨_, rfl⟩
  rw [← hV0] at e0 e1 hb2 hs2
  have HV0 := Lib.hid hV0
  clear hV0
  have HB0 := Lib.hid (And.intro hb2 (And.intro e0 e1))
  have HS := Lib.hid hs2
  obtain ⟨⟨g0, g1, g2, g3, g4, g5⟩, _⟩ := six_facts e0
  clear e0 e1 hb2 hs2
  have HC0 : Hid (Calls Tryz.prog 120 #[.slice ao nn c] V0 (RowP 50 3 (x.words.flatMap (wdC 50)) V0)) := by
    have hbw := HB0.out.1
    exact CopyWordRow_of x.words _ _ _ Sa V0 (ha.same _ _ _ (fun g hg => hbw.block g (At.lt _ _ _ ha g hg))) (Nat.le_trans (wdsYtngimijiafnheaaGreatlength _) hsm) (fun y hy S vx w h => CopyWord_of y (Nat.le_trans (wdYtngimijiafnheaaGreatmem _ y hy) hsm) S vx w h)
  go_enter Tryz.func113, Tryz.ntmps113
  go_upto_region 1 with fail
  rw [← HV0.out]
  go_wp2_with fail
  refine HC0.out.mono ?_
  rintro e w1 ⟨yo0, yn0, yc0, S0, rfl, hat, hnd, hge, hbc⟩
  have HY0 := Lib.hid (And.intro hat (And.intro hnd hge))
  clear g0 g1 g2 g3 g4 g5
  have E0 := (hbc.block w.heap.size (by have := HS.out; omega)).trans HB0.out.2.1
  have E1 := (hbc.block (w.heap.size + 1) (by have := HS.out; omega)).trans HB0.out.2.2
  obtain ⟨⟨g0, g1, g2, g3, g4, g5⟩, ⟨z0, z1, z2, z3, z4, z5⟩⟩ := six_facts E0
  have HB1 : Hid (Below w.heap.size w (w1.setCell ⟨w.heap.size, 0, none⟩ (.slice yo0 yn0 yc0)) ∧ (w1.setCell ⟨w.heap.size, 0, none⟩ (.slice yo0 yn0 yc0)).heap[w.heap.size]? = some (.cells #[.slice yo0 yn0 yc0, .string (mkS x.prec), .bool x.has, .string (mkS x.action), .int .i64 wv, .int .i64 (x.at_ : Int)] 47 (0, 0)) ∧ (w1.setCell ⟨w.heap.size, 0, none⟩ (.slice yo0 yn0 yc0)).heap[w.heap.size + 1]? = some (.cells #[.slice none 0 0, .string ⟨#[]⟩, .bool false, .string ⟨#[]⟩, .int .i64 0, .int .i64 0] 47 (0, 0)) ∧ w.heap.size + 2 ≤ (w1.setCell ⟨w.heap.size, 0, none⟩ (.slice yo0 yn0 yc0)).heap.size) := by
    refine ⟨(HB0.out.1.trans (hbc.mono HB0.out.1.size)).setCell (p := ⟨w.heap.size, 0, none⟩) (Nat.le_refl _) _, ?_, ?_, ?_⟩
    · rw [heap_setCell_same _ _ 0 _ _ _ E0]; rfl
    · rw [Below.heap_setCell _ _ _ _ (by show w.heap.size + 1 ≠ w.heap.size; omega)]; exact E1
    · have := hbc.size
      have := HS.out

      simp [World.setCell]
      omega
  have HZ0 := Lib.hid hbc.size
  clear E0 E1 hat hnd hge hbc
  go_upto_region 2 with fail
  clear g0 g1 g2 g3 g4 g5 z0 z1 z2 z3 z4 z5
  obtain ⟨V1, hV⟩ : ∃ V, V = w1.setCell ⟨w.heap.size, 0, none⟩ (.slice yo0 yn0 yc0) := ⟨_, rfl⟩
  have HY0 : Hid (At V1 (.row 50 3 (x.words.flatMap (wdC 50))) S0 (.slice yo0 yn0 yc0) ∧ S0.Nodup ∧ ∀ s ∈ S0, V0.heap.size ≤ s) := ⟨by rw [hV]; exact HY0.out.1.same _ _ _ (fun g hg => Below.heap_setCell _ _ _ _ (by have := HY0.out.2.2 g hg; have := HS.out; show g ≠ w.heap.size; omega)), HY0.out.2⟩
  rw [← hV] at HB1 ⊢
  have HW1 : Hid (V1.heap.size = w1.heap.size) := by show _ = _; rw [hV]; simp [World.setCell]
  clear hV
  obtain ⟨⟨g0, g1, g2, g3, g4, g5⟩, _⟩ := six_facts HB1.out.2.1
  obtain ⟨⟨q0, q1, q2, q3, q4, q5⟩, ⟨u0, u1, u2, u3, u4, u5⟩⟩ := six_facts HB1.out.2.2.1
  go_wp2_with fail
  refine bodyPost_ret (v := .agg #[.slice yo0 yn0 yc0, .string (mkS x.prec), .bool x.has, .string (mkS x.action), .int .i64 wv, .int .i64 (x.at_ : Int)]) (by simp [results, Tryz.results113, go_sem, q0, q1, q2, q3, q4, q5]) rfl ?_
  have hlow := six_low w.heap.size V1 (w.heap.size + 1) (.slice yo0 yn0 yc0) (.string (mkS x.prec)) (.bool x.has) (.string (mkS x.action)) (.int .i64 wv) (.int .i64 (x.at_ : Int)) (by omega)
  have hs := HS.out
  refine ⟨[.slice yo0 yn0 yc0, .string (mkS x.prec), .bool x.has, .string (mkS x.action), .int .i64 wv, .int .i64 (x.at_ : Int)], S0, rfl, ?_, ?_, ?_, HB1.out.1.trans hlow⟩
  · have a0 : At (six V1 (w.heap.size + 1) (.slice yo0 yn0 yc0) (.string (mkS x.prec)) (.bool x.has) (.string (mkS x.action)) (.int .i64 wv) (.int .i64 (x.at_ : Int))) (.row 50 3 (x.words.flatMap (wdC 50))) S0 (.slice yo0 yn0 yc0) := HY0.out.1.same _ _ _ (fun g hg => six_same _ _ _ _ _ _ _ _ _ (by have := HY0.out.2.2 g hg; omega))
    unfold altC
    rw [wdsC_flat, HWV.out]
    have := AtL.cons a0 (AtL.plainCons (v := .string (mkS x.prec)) (AtL.plainCons (v := .bool x.has) (AtL.plainCons (v := .string (mkS x.action)) (AtL.plainCons (v := .int .i64 wv) (AtL.plainCons (v := .int .i64 (x.at_ : Int)) (AtL.nil _))))))
    rw [List.append_nil] at this
    exact this
  · exact HY0.out.2.1
  · intro s hs'
    have := HY0.out.2.2 s hs'
    omega
set_option maxHeartbeats 4000000 in
theorem CopyRule_of (x : Ru) (hsm : smallR x) (S : List Nat) (vx : List Value) (w : World) (hx : AtL w (ruleC x) S vx) : Calls Tryz.prog 72 #[.agg vx.toArray] w (CopP (ruleC x) w) := by
  obtain ⟨ao, nn, c, Sa, bo, m, d, Sb, rfl, ha, hb'⟩ := ruleParts hx
  clear hx
  obtain ⟨⟨e0, e1⟩, hb2, hs2⟩ := alloc2 w (.cells #[.string (mkS x.name), .slice ao nn c, .slice bo m d, .int .i64 (x.at_ : Int)] 44) (.cells #[.string ⟨#[]⟩, .slice none 0 0, .slice none 0 0, .int .i64 0] 44)
  obtain ⟨V0, hV0⟩ : ∃ V, V = (w.alloc (.cells #[.string (mkS x.name), .slice ao nn c, .slice bo m d, .int .i64 (x.at_ : Int)] 44)).alloc (.cells #[.string ⟨#[]⟩, .slice none 0 0, .slice none 0 0, .int .i64 0] 44) := ⟨_, rfl⟩
  rw [← hV0] at e0 e1 hb2 hs2
  have HV0 := Lib.hid hV0
  clear hV0
  have HB0 := Lib.hid (And.intro hb2 (And.intro e0 e1))
  have HS := Lib.hid hs2
  obtain ⟨⟨g0, g1, g2, g3⟩, _⟩ := four_facts e0
  clear e0 e1 hb2 hs2
  have HC0 : Hid (Calls Tryz.prog 98 #[.slice ao nn c] V0 (RowP 9 1 (x.params.map strC) V0)) := by
    have hbw := HB0.out.1
    exact CopyTexts_of x.params _ _ _ Sa V0 (ha.same _ _ _ (fun g hg => hbw.block g (At.lt _ _ _ ha g hg))) hsm.1
  go_enter Tryz.func72, Tryz.ntmps72
  go_upto_region 1 with fail
  rw [← HV0.out]
  go_wp2_with fail
  refine HC0.out.mono ?_
  rintro e w1 ⟨yo0, yn0, yc0, S0, rfl, hat, hnd, hge, hbc⟩
  have HY0 := Lib.hid (And.intro hat (And.intro hnd hge))
  clear g0 g1 g2 g3
  have E0 := (hbc.block w.heap.size (by have := HS.out; omega)).trans HB0.out.2.1
  have E1 := (hbc.block (w.heap.size + 1) (by have := HS.out; omega)).trans HB0.out.2.2
  obtain ⟨⟨g0, g1, g2, g3⟩, ⟨z0, z1, z2, z3⟩⟩ := four_facts E0
  have HB1 : Hid (Below w.heap.size w (w1.setCell ⟨w.heap.size, 1, none⟩ (.slice yo0 yn0 yc0)) ∧ (w1.setCell ⟨w.heap.size, 1, none⟩ (.slice yo0 yn0 yc0)).heap[w.heap.size]? = some (.cells #[.string (mkS x.name), .slice yo0 yn0 yc0, .slice bo m d, .int .i64 (x.at_ : Int)] 44 (0, 0)) ∧ (w1.setCell ⟨w.heap.size, 1, none⟩ (.slice yo0 yn0 yc0)).heap[w.heap.size + 1]? = some (.cells #[.string ⟨#[]⟩, .slice none 0 0, .slice none 0 0, .int .i64 0] 44 (0, 0)) ∧ w.heap.size + 2 ≤ (w1.setCell ⟨w.heap.size, 1, none⟩ (.slice yo0 yn0 yc0)).heap.size) := by
    refine ⟨(HB0.out.1.trans (hbc.mono HB0.out.1.size)).setCell (p := ⟨w.heap.size, 1, none⟩) (Nat.le_refl _) _, ?_, ?_, ?_⟩
    · rw [heap_setCell_same _ _ 1 _ _ _ E0]; rfl
    · rw [Below.heap_setCell _ _ _ _ (by show w.heap.size + 1 ≠ w.heap.size; omega)]; exact E1
    · have := hbc.size
      have := HS.out

      simp [World.setCell]
      omega
  have HZ0 := Lib.hid hbc.size
  clear E0 E1 hat hnd hge hbc
  go_upto_region 2 with fail
  clear g0 g1 g2 g3 z0 z1 z2 z3
  obtain ⟨V1, hV⟩ : ∃ V, V = w1.setCell ⟨w.heap.size, 1, none⟩ (.slice yo0 yn0 yc0) := ⟨_, rfl⟩
  have HY0 : Hid (At V1 (.row 9 1 (x.params.map strC)) S0 (.slice yo0 yn0 yc0) ∧ S0.Nodup ∧ ∀ s ∈ S0, V0.heap.size ≤ s) := ⟨by rw [hV]; exact HY0.out.1.same _ _ _ (fun g hg => Below.heap_setCell _ _ _ _ (by have := HY0.out.2.2 g hg; have := HS.out; show g ≠ w.heap.size; omega)), HY0.out.2⟩
  rw [← hV] at HB1 ⊢
  have HW1 : Hid (V1.heap.size = w1.heap.size) := by show _ = _; rw [hV]; simp [World.setCell]
  clear hV
  obtain ⟨⟨g0, g1, g2, g3⟩, _⟩ := four_facts HB1.out.2.1
  have HX0 : Hid (∀ s ∈ S0, s < V1.heap.size) := fun s hs => At.lt _ _ _ HY0.out.1 s hs
  have HC1 : Hid (Calls Tryz.prog 99 #[.slice bo m d] V1 (RowP 47 6 (x.alts.flatMap altC) V1)) := by
    have hbw := HB1.out.1
    exact CopyAlts_of x.alts _ _ _ Sb V1 (hb'.same _ _ _ (fun g hg => hbw.block g (At.lt _ _ _ hb' g hg))) hsm.2.1 (fun y hy S vx w h => CopyAlt_of y (hsm.2.2 y hy) S vx w h)
  go_wp2_with fail
  refine HC1.out.mono ?_
  rintro e w2 ⟨yo1, yn1, yc1, S1, rfl, hat, hnd, hge, hbc⟩
  have HY1 := Lib.hid (And.intro hat (And.intro hnd hge))
  clear g0 g1 g2 g3
  have E0 := (hbc.block w.heap.size (by have := HS.out; have := HB1.out.2.2.2; omega)).trans HB1.out.2.1
  have E1 := (hbc.block (w.heap.size + 1) (by have := HS.out; have := HB1.out.2.2.2; omega)).trans HB1.out.2.2.1
  obtain ⟨⟨g0, g1, g2, g3⟩, ⟨z0, z1, z2, z3⟩⟩ := four_facts E0
  have HB2 : Hid (Below w.heap.size w (w2.setCell ⟨w.heap.size, 2, none⟩ (.slice yo1 yn1 yc1)) ∧ (w2.setCell ⟨w.heap.size, 2, none⟩ (.slice yo1 yn1 yc1)).heap[w.heap.size]? = some (.cells #[.string (mkS x.name), .slice yo0 yn0 yc0, .slice yo1 yn1 yc1, .int .i64 (x.at_ : Int)] 44 (0, 0)) ∧ (w2.setCell ⟨w.heap.size, 2, none⟩ (.slice yo1 yn1 yc1)).heap[w.heap.size + 1]? = some (.cells #[.string ⟨#[]⟩, .slice none 0 0, .slice none 0 0, .int .i64 0] 44 (0, 0)) ∧ w.heap.size + 2 ≤ (w2.setCell ⟨w.heap.size, 2, none⟩ (.slice yo1 yn1 yc1)).heap.size) := by
    refine ⟨(HB1.out.1.trans (hbc.mono HB1.out.1.size)).setCell (p := ⟨w.heap.size, 2, none⟩) (Nat.le_refl _) _, ?_, ?_, ?_⟩
    · rw [heap_setCell_same _ _ 2 _ _ _ E0]; rfl
    · rw [Below.heap_setCell _ _ _ _ (by show w.heap.size + 1 ≠ w.heap.size; omega)]; exact E1
    · have := hbc.size
      have := HS.out
      have := HB1.out.2.2.2
      simp [World.setCell]
      omega
  have HY0 : Hid (At w2 (.row 9 1 (x.params.map strC)) S0 (.slice yo0 yn0 yc0) ∧ S0.Nodup ∧ ∀ s ∈ S0, V0.heap.size ≤ s) := ⟨HY0.out.1.same _ _ _ (fun g hg => hbc.block g (At.lt _ _ _ HY0.out.1 g hg)), HY0.out.2⟩
  have HZ1 := Lib.hid hbc.size
  clear E0 E1 hat hnd hge hbc
  go_upto_region 3 with fail
  clear g0 g1 g2 g3 z0 z1 z2 z3
  obtain ⟨V2, hV⟩ : ∃ V, V = w2.setCell ⟨w.heap.size, 2, none⟩ (.slice yo1 yn1 yc1) := ⟨_, rfl⟩
  have HY0 : Hid (At V2 (.row 9 1 (x.params.map strC)) S0 (.slice yo0 yn0 yc0) ∧ S0.Nodup ∧ ∀ s ∈ S0, V0.heap.size ≤ s) := ⟨by rw [hV]; exact HY0.out.1.same _ _ _ (fun g hg => Below.heap_setCell _ _ _ _ (by have := HY0.out.2.2 g hg; have := HS.out; show g ≠ w.heap.size; omega)), HY0.out.2⟩
  have HY1 : Hid (At V2 (.row 47 6 (x.alts.flatMap altC)) S1 (.slice yo1 yn1 yc1) ∧ S1.Nodup ∧ ∀ s ∈ S1, V1.heap.size ≤ s) := ⟨by rw [hV]; exact HY1.out.1.same _ _ _ (fun g hg => Below.heap_setCell _ _ _ _ (by have := HY1.out.2.2 g hg; have := HS.out; have := HB1.out.2.2.2; show g ≠ w.heap.size; omega)), HY1.out.2⟩
  rw [← hV] at HB2 ⊢
  have HW2 : Hid (V2.heap.size = w2.heap.size) := by show _ = _; rw [hV]; simp [World.setCell]
  clear hV
  obtain ⟨⟨g0, g1, g2, g3⟩, _⟩ := four_facts HB2.out.2.1
  obtain ⟨⟨q0, q1, q2, q3⟩, ⟨u0, u1, u2, u3⟩⟩ := four_facts HB2.out.2.2.1
  go_wp2_with fail
  refine bodyPost_ret (v := .agg #[.string (mkS x.name), .slice yo0 yn0 yc0, .slice yo1 yn1 yc1, .int .i64 (x.at_ : Int)]) (by simp [results, Tryz.results72, go_sem, q0, q1, q2, q3]) rfl ?_
  have hlow := four_low w.heap.size V2 (w.heap.size + 1) (.string (mkS x.name)) (.slice yo0 yn0 yc0) (.slice yo1 yn1 yc1) (.int .i64 (x.at_ : Int)) (by omega)
  have hs := HS.out
  refine ⟨[.string (mkS x.name), .slice yo0 yn0 yc0, .slice yo1 yn1 yc1, .int .i64 (x.at_ : Int)], S0 ++ S1, rfl, ?_, ?_, ?_, HB2.out.1.trans hlow⟩
  · have a0 : At (four V2 (w.heap.size + 1) (.string (mkS x.name)) (.slice yo0 yn0 yc0) (.slice yo1 yn1 yc1) (.int .i64 (x.at_ : Int))) (.row 9 1 (x.params.map strC)) S0 (.slice yo0 yn0 yc0) := HY0.out.1.same _ _ _ (fun g hg => four_same _ _ _ _ _ _ _ (by have := HY0.out.2.2 g hg; omega))
    have a1 : At (four V2 (w.heap.size + 1) (.string (mkS x.name)) (.slice yo0 yn0 yc0) (.slice yo1 yn1 yc1) (.int .i64 (x.at_ : Int))) (.row 47 6 (x.alts.flatMap altC)) S1 (.slice yo1 yn1 yc1) := HY1.out.1.same _ _ _ (fun g hg => four_same _ _ _ _ _ _ _ (by have := HY1.out.2.2 g hg; have := HB1.out.2.2.2; omega))
    unfold ruleC
    have := AtL.plainCons (v := .string (mkS x.name)) (AtL.cons a0 (AtL.cons a1 (AtL.plainCons (v := .int .i64 (x.at_ : Int)) (AtL.nil _))))
    rw [List.append_nil] at this
    exact this
  · rw [List.nodup_append]
    refine ⟨HY0.out.2.1, HY1.out.2.1, fun x hx y hy hxy => ?_⟩
    subst hxy
    have h1 := HY1.out.2.2 x hy
    have h2 := HX0.out x hx
    omega
  · intro s hs'
    rcases List.mem_append.1 hs' with h9 | h9
    · have := HY0.out.2.2 s h9; omega
    · have := HY1.out.2.2 s h9; have := HB1.out.2.2.2; omega
set_option maxHeartbeats 4000000 in
theorem CopyDecl_of (x : De) (hsm : x.names.length ≤ 100000) (S : List Nat) (vx : List Value) (w : World) (hx : AtL w (declC x) S vx) : Calls Tryz.prog 71 #[.agg vx.toArray] w (CopP (declC x) w) := by
  obtain ⟨ao, nn, c, Sa, rfl, ha⟩ := declParts hx
  clear hx
  obtain ⟨⟨e0, e1⟩, hb2, hs2⟩ := alloc2 w (.cells #[.string (mkS x.kind), .string (mkS x.type), .slice ao nn c, .int .i64 (x.at_ : Int)] 41) (.cells #[.string ⟨#[]⟩, .string ⟨#[]⟩, .slice none 0 0, .int .i64 0] 41)
  obtain ⟨V0, hV0⟩ : ∃ V, V = (w.alloc (.cells #[.string (mkS x.kind), .string (mkS x.type), .slice ao nn c, .int .i64 (x.at_ : Int)] 41)).alloc (.cells #[.string ⟨#[]⟩, .string ⟨#[]⟩, .slice none 0 0, .int .i64 0] 41) := ⟨_, rfl⟩
  rw [← hV0] at e0 e1 hb2 hs2
  have HV0 := Lib.hid hV0
  clear hV0
  have HB0 := Lib.hid (And.intro hb2 (And.intro e0 e1))
  have HS := Lib.hid hs2
  obtain ⟨⟨g0, g1, g2, g3⟩, _⟩ := four_facts e0
  clear e0 e1 hb2 hs2
  have HC0 : Hid (Calls Tryz.prog 98 #[.slice ao nn c] V0 (RowP 9 1 (x.names.map strC) V0)) := by
    have hbw := HB0.out.1
    exact CopyTexts_of x.names _ _ _ Sa V0 (ha.same _ _ _ (fun g hg => hbw.block g (At.lt _ _ _ ha g hg))) hsm
  go_enter Tryz.func71, Tryz.ntmps71
  go_upto_region 1 with fail
  rw [← HV0.out]
  go_wp2_with fail
  refine HC0.out.mono ?_
  rintro e w1 ⟨yo0, yn0, yc0, S0, rfl, hat, hnd, hge, hbc⟩
  have HY0 := Lib.hid (And.intro hat (And.intro hnd hge))
  clear g0 g1 g2 g3
  have E0 := (hbc.block w.heap.size (by have := HS.out; omega)).trans HB0.out.2.1
  have E1 := (hbc.block (w.heap.size + 1) (by have := HS.out; omega)).trans HB0.out.2.2
  obtain ⟨⟨g0, g1, g2, g3⟩, ⟨z0, z1, z2, z3⟩⟩ := four_facts E0
  have HB1 : Hid (Below w.heap.size w (w1.setCell ⟨w.heap.size, 2, none⟩ (.slice yo0 yn0 yc0)) ∧ (w1.setCell ⟨w.heap.size, 2, none⟩ (.slice yo0 yn0 yc0)).heap[w.heap.size]? = some (.cells #[.string (mkS x.kind), .string (mkS x.type), .slice yo0 yn0 yc0, .int .i64 (x.at_ : Int)] 41 (0, 0)) ∧ (w1.setCell ⟨w.heap.size, 2, none⟩ (.slice yo0 yn0 yc0)).heap[w.heap.size + 1]? = some (.cells #[.string ⟨#[]⟩, .string ⟨#[]⟩, .slice none 0 0, .int .i64 0] 41 (0, 0)) ∧ w.heap.size + 2 ≤ (w1.setCell ⟨w.heap.size, 2, none⟩ (.slice yo0 yn0 yc0)).heap.size) := by
    refine ⟨(HB0.out.1.trans (hbc.mono HB0.out.1.size)).setCell (p := ⟨w.heap.size, 2, none⟩) (Nat.le_refl _) _, ?_, ?_, ?_⟩
    · rw [heap_setCell_same _ _ 2 _ _ _ E0]; rfl
    · rw [Below.heap_setCell _ _ _ _ (by show w.heap.size + 1 ≠ w.heap.size; omega)]; exact E1
    · have := hbc.size
      have := HS.out

      simp [World.setCell]
      omega
  have HZ0 := Lib.hid hbc.size
  clear E0 E1 hat hnd hge hbc
  go_upto_region 2 with fail
  clear g0 g1 g2 g3 z0 z1 z2 z3
  obtain ⟨V1, hV⟩ : ∃ V, V = w1.setCell ⟨w.heap.size, 2, none⟩ (.slice yo0 yn0 yc0) := ⟨_, rfl⟩
  have HY0 : Hid (At V1 (.row 9 1 (x.names.map strC)) S0 (.slice yo0 yn0 yc0) ∧ S0.Nodup ∧ ∀ s ∈ S0, V0.heap.size ≤ s) := ⟨by rw [hV]; exact HY0.out.1.same _ _ _ (fun g hg => Below.heap_setCell _ _ _ _ (by have := HY0.out.2.2 g hg; have := HS.out; show g ≠ w.heap.size; omega)), HY0.out.2⟩
  rw [← hV] at HB1 ⊢
  have HW1 : Hid (V1.heap.size = w1.heap.size) := by show _ = _; rw [hV]; simp [World.setCell]
  clear hV
  obtain ⟨⟨g0, g1, g2, g3⟩, _⟩ := four_facts HB1.out.2.1
  obtain ⟨⟨q0, q1, q2, q3⟩, ⟨u0, u1, u2, u3⟩⟩ := four_facts HB1.out.2.2.1
  go_wp2_with fail
  refine bodyPost_ret (v := .agg #[.string (mkS x.kind), .string (mkS x.type), .slice yo0 yn0 yc0, .int .i64 (x.at_ : Int)]) (by simp [results, Tryz.results71, go_sem, q0, q1, q2, q3]) rfl ?_
  have hlow := four_low w.heap.size V1 (w.heap.size + 1) (.string (mkS x.kind)) (.string (mkS x.type)) (.slice yo0 yn0 yc0) (.int .i64 (x.at_ : Int)) (by omega)
  have hs := HS.out
  refine ⟨[.string (mkS x.kind), .string (mkS x.type), .slice yo0 yn0 yc0, .int .i64 (x.at_ : Int)], S0, rfl, ?_, ?_, ?_, HB1.out.1.trans hlow⟩
  · have a0 : At (four V1 (w.heap.size + 1) (.string (mkS x.kind)) (.string (mkS x.type)) (.slice yo0 yn0 yc0) (.int .i64 (x.at_ : Int))) (.row 9 1 (x.names.map strC)) S0 (.slice yo0 yn0 yc0) := HY0.out.1.same _ _ _ (fun g hg => four_same _ _ _ _ _ _ _ (by have := HY0.out.2.2 g hg; omega))
    unfold declC
    have := AtL.plainCons (v := .string (mkS x.kind)) (AtL.plainCons (v := .string (mkS x.type)) (AtL.cons a0 (AtL.plainCons (v := .int .i64 (x.at_ : Int)) (AtL.nil _))))
    rw [List.append_nil] at this
    exact this
  · exact HY0.out.2.1
  · intro s hs'
    have := HY0.out.2.2 s hs'
    omega
set_option maxHeartbeats 4000000 in
theorem CopySource_of (x : Tx) (hsm : smallT x) (S : List Nat) (vx : List Value) (w : World) (hx : AtL w (textC x) S vx) : Calls Tryz.prog 23 #[.agg vx.toArray] w (CopP (textC x) w) := by
  obtain ⟨ao, nn, c, Sa, bo, m, d, Sb, rfl, ha, hb'⟩ := textParts hx
  clear hx
  obtain ⟨⟨e0, e1⟩, hb2, hs2⟩ := alloc2 w (.cells #[.slice ao nn c, .slice bo m d] 25) (.cells #[.slice none 0 0, .slice none 0 0] 25)
  obtain ⟨V0, hV0⟩ : ∃ V, V = (w.alloc (.cells #[.slice ao nn c, .slice bo m d] 25)).alloc (.cells #[.slice none 0 0, .slice none 0 0] 25) := ⟨_, rfl⟩
  rw [← hV0] at e0 e1 hb2 hs2
  have HV0 := Lib.hid hV0
  clear hV0
  have HB0 := Lib.hid (And.intro hb2 (And.intro e0 e1))
  have HS := Lib.hid hs2
  obtain ⟨⟨g0, g1⟩, _⟩ := two_facts e0
  clear e0 e1 hb2 hs2
  have HC0 : Hid (Calls Tryz.prog 40 #[.slice ao nn c] V0 (RowP 41 4 (x.decls.flatMap declC) V0)) := by
    have hbw := HB0.out.1
    exact CopyDecls_of x.decls _ _ _ Sa V0 (ha.same _ _ _ (fun g hg => hbw.block g (At.lt _ _ _ ha g hg))) hsm.1 (fun y hy S vx w h => CopyDecl_of y (hsm.2.1 y hy) S vx w h)
  go_enter Tryz.func23, Tryz.ntmps23
  go_upto_region 1 with fail
  rw [← HV0.out]
  go_wp2_with fail
  refine HC0.out.mono ?_
  rintro e w1 ⟨yo0, yn0, yc0, S0, rfl, hat, hnd, hge, hbc⟩
  have HY0 := Lib.hid (And.intro hat (And.intro hnd hge))
  clear g0 g1
  have E0 := (hbc.block w.heap.size (by have := HS.out; omega)).trans HB0.out.2.1
  have E1 := (hbc.block (w.heap.size + 1) (by have := HS.out; omega)).trans HB0.out.2.2
  obtain ⟨⟨g0, g1⟩, ⟨z0, z1⟩⟩ := two_facts E0
  have HB1 : Hid (Below w.heap.size w (w1.setCell ⟨w.heap.size, 0, none⟩ (.slice yo0 yn0 yc0)) ∧ (w1.setCell ⟨w.heap.size, 0, none⟩ (.slice yo0 yn0 yc0)).heap[w.heap.size]? = some (.cells #[.slice yo0 yn0 yc0, .slice bo m d] 25 (0, 0)) ∧ (w1.setCell ⟨w.heap.size, 0, none⟩ (.slice yo0 yn0 yc0)).heap[w.heap.size + 1]? = some (.cells #[.slice none 0 0, .slice none 0 0] 25 (0, 0)) ∧ w.heap.size + 2 ≤ (w1.setCell ⟨w.heap.size, 0, none⟩ (.slice yo0 yn0 yc0)).heap.size) := by
    refine ⟨(HB0.out.1.trans (hbc.mono HB0.out.1.size)).setCell (p := ⟨w.heap.size, 0, none⟩) (Nat.le_refl _) _, ?_, ?_, ?_⟩
    · rw [heap_setCell_same _ _ 0 _ _ _ E0]; rfl
    · rw [Below.heap_setCell _ _ _ _ (by show w.heap.size + 1 ≠ w.heap.size; omega)]; exact E1
    · have := hbc.size
      have := HS.out

      simp [World.setCell]
      omega
  have HZ0 := Lib.hid hbc.size
  clear E0 E1 hat hnd hge hbc
  go_upto_region 2 with fail
  clear g0 g1 z0 z1
  obtain ⟨V1, hV⟩ : ∃ V, V = w1.setCell ⟨w.heap.size, 0, none⟩ (.slice yo0 yn0 yc0) := ⟨_, rfl⟩
  have HY0 : Hid (At V1 (.row 41 4 (x.decls.flatMap declC)) S0 (.slice yo0 yn0 yc0) ∧ S0.Nodup ∧ ∀ s ∈ S0, V0.heap.size ≤ s) := ⟨by rw [hV]; exact HY0.out.1.same _ _ _ (fun g hg => Below.heap_setCell _ _ _ _ (by have := HY0.out.2.2 g hg; have := HS.out; show g ≠ w.heap.size; omega)), HY0.out.2⟩
  rw [← hV] at HB1 ⊢
  have HW1 : Hid (V1.heap.size = w1.heap.size) := by show _ = _; rw [hV]; simp [World.setCell]
  clear hV
  obtain ⟨⟨g0, g1⟩, _⟩ := two_facts HB1.out.2.1
  have HX0 : Hid (∀ s ∈ S0, s < V1.heap.size) := fun s hs => At.lt _ _ _ HY0.out.1 s hs
  have HC1 : Hid (Calls Tryz.prog 41 #[.slice bo m d] V1 (RowP 44 4 (x.rules.flatMap ruleC) V1)) := by
    have hbw := HB1.out.1
    exact CopyRules_of x.rules _ _ _ Sb V1 (hb'.same _ _ _ (fun g hg => hbw.block g (At.lt _ _ _ hb' g hg))) hsm.2.2.1 (fun y hy S vx w h => CopyRule_of y (hsm.2.2.2 y hy) S vx w h)
  go_wp2_with fail
  refine HC1.out.mono ?_
  rintro e w2 ⟨yo1, yn1, yc1, S1, rfl, hat, hnd, hge, hbc⟩
  have HY1 := Lib.hid (And.intro hat (And.intro hnd hge))
  clear g0 g1
  have E0 := (hbc.block w.heap.size (by have := HS.out; have := HB1.out.2.2.2; omega)).trans HB1.out.2.1
  have E1 := (hbc.block (w.heap.size + 1) (by have := HS.out; have := HB1.out.2.2.2; omega)).trans HB1.out.2.2.1
  obtain ⟨⟨g0, g1⟩, ⟨z0, z1⟩⟩ := two_facts E0
  have HB2 : Hid (Below w.heap.size w (w2.setCell ⟨w.heap.size, 1, none⟩ (.slice yo1 yn1 yc1)) ∧ (w2.setCell ⟨w.heap.size, 1, none⟩ (.slice yo1 yn1 yc1)).heap[w.heap.size]? = some (.cells #[.slice yo0 yn0 yc0, .slice yo1 yn1 yc1] 25 (0, 0)) ∧ (w2.setCell ⟨w.heap.size, 1, none⟩ (.slice yo1 yn1 yc1)).heap[w.heap.size + 1]? = some (.cells #[.slice none 0 0, .slice none 0 0] 25 (0, 0)) ∧ w.heap.size + 2 ≤ (w2.setCell ⟨w.heap.size, 1, none⟩ (.slice yo1 yn1 yc1)).heap.size) := by
    refine ⟨(HB1.out.1.trans (hbc.mono HB1.out.1.size)).setCell (p := ⟨w.heap.size, 1, none⟩) (Nat.le_refl _) _, ?_, ?_, ?_⟩
    · rw [heap_setCell_same _ _ 1 _ _ _ E0]; rfl
    · rw [Below.heap_setCell _ _ _ _ (by show w.heap.size + 1 ≠ w.heap.size; omega)]; exact E1
    · have := hbc.size
      have := HS.out
      have := HB1.out.2.2.2
      simp [World.setCell]
      omega
  have HY0 : Hid (At w2 (.row 41 4 (x.decls.flatMap declC)) S0 (.slice yo0 yn0 yc0) ∧ S0.Nodup ∧ ∀ s ∈ S0, V0.heap.size ≤ s) := ⟨HY0.out.1.same _ _ _ (fun g hg => hbc.block g (At.lt _ _ _ HY0.out.1 g hg)), HY0.out.2⟩
  have HZ1 := Lib.hid hbc.size
  clear E0 E1 hat hnd hge hbc
  go_upto_region 3 with fail
  clear g0 g1 z0 z1
  obtain ⟨V2, hV⟩ : ∃ V, V = w2.setCell ⟨w.heap.size, 1, none⟩ (.slice yo1 yn1 yc1) := ⟨_, rfl⟩
  have HY0 : Hid (At V2 (.row 41 4 (x.decls.flatMap declC)) S0 (.slice yo0 yn0 yc0) ∧ S0.Nodup ∧ ∀ s ∈ S0, V0.heap.size ≤ s) := ⟨by rw [hV]; exact HY0.out.1.same _ _ _ (fun g hg => Below.heap_setCell _ _ _ _ (by have := HY0.out.2.2 g hg; have := HS.out; show g ≠ w.heap.size; omega)), HY0.out.2⟩
  have HY1 : Hid (At V2 (.row 44 4 (x.rules.flatMap ruleC)) S1 (.slice yo1 yn1 yc1) ∧ S1.Nodup ∧ ∀ s ∈ S1, V1.heap.size ≤ s) := ⟨by rw [hV]; exact HY1.out.1.same _ _ _ (fun g hg => Below.heap_setCell _ _ _ _ (by have := HY1.out.2.2 g hg; have := HS.out; have := HB1.out.2.2.2; show g ≠ w.heap.size; omega)), HY1.out.2⟩
  rw [← hV] at HB2 ⊢
  have HW2 : Hid (V2.heap.size = w2.heap.size) := by show _ = _; rw [hV]; simp [World.setCell]
  clear hV
  obtain ⟨⟨g0, g1⟩, _⟩ := two_facts HB2.out.2.1
  obtain ⟨⟨q0, q1⟩, ⟨u0, u1⟩⟩ := two_facts HB2.out.2.2.1
  go_wp2_with fail
  refine bodyPost_ret (v := .agg #[.slice yo0 yn0 yc0, .slice yo1 yn1 yc1]) (by simp [results, Tryz.results23, go_sem, q0, q1]) rfl ?_
  have hlow := two_low w.heap.size V2 (w.heap.size + 1) (.slice yo0 yn0 yc0) (.slice yo1 yn1 yc1) (by omega)
  have hs := HS.out
  refine ⟨[.slice yo0 yn0 yc0, .slice yo1 yn1 yc1], S0 ++ S1, rfl, ?_, ?_, ?_, HB2.out.1.trans hlow⟩
  · have a0 : At (two V2 (w.heap.size + 1) (.slice yo0 yn0 yc0) (.slice yo1 yn1 yc1)) (.row 41 4 (x.decls.flatMap declC)) S0 (.slice yo0 yn0 yc0) := HY0.out.1.same _ _ _ (fun g hg => two_same _ _ _ _ _ (by have := HY0.out.2.2 g hg; omega))
    have a1 : At (two V2 (w.heap.size + 1) (.slice yo0 yn0 yc0) (.slice yo1 yn1 yc1)) (.row 44 4 (x.rules.flatMap ruleC)) S1 (.slice yo1 yn1 yc1) := HY1.out.1.same _ _ _ (fun g hg => two_same _ _ _ _ _ (by have := HY1.out.2.2 g hg; have := HB1.out.2.2.2; omega))
    unfold textC
    have := AtL.cons a0 (AtL.cons a1 (AtL.nil _))
    rw [List.append_nil] at this
    exact this
  · rw [List.nodup_append]
    refine ⟨HY0.out.2.1, HY1.out.2.1, fun x hx y hy hxy => ?_⟩
    subst hxy
    have h1 := HY1.out.2.2 x hy
    have h2 := HX0.out x hx
    omega
  · intro s hs'
    rcases List.mem_append.1 hs' with h9 | h9
    · have := HY0.out.2.2 s h9; omega
    · have := HY1.out.2.2 s h9; have := HB1.out.2.2.2; omega
end Go.Proofs.YtngimijiafnheaaGreat
