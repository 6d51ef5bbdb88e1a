/- write.Text. -/
/- The law's awake: the chapter's text, and one that may not be written. -/
/- WriteRead: a source that was read may be written, and is read as the same. -/
import Derived.Test.YtngimijiafnheaaGreatWrH
import Derived.Test.YtngimijiafnheaaGreatWrE
import Derived.Defers
import Derived.Recover
import Derived.RegionTactic
import Derived.ChangeAlike
import Derived.Test.YtngimijiafnheaaGreatRdV
import Derived.Test.YtngimijiafnheaaGreatMtL
import Derived.Test.YtngimijiafnheaaGreatMtE
import Derived.Deep.RegionLaw
import Derived.Deep.QuietTactic
import Derived.BigQuiet
import Derived.Deep.Draws
set_option maxRecDepth 100000
set_option linter.unusedSimpArgs false
namespace LexT
open Go Go.RowKit
set_option linter.unusedVariables false
theorem alloc5 {w V : World} {o0 o1 o2 o3 o4 : Obj} (h : V = ((((w.alloc o0).alloc o1).alloc o2).alloc o3).alloc o4) :
    V.heap[w.heap.size]? = some o0 ∧ V.heap[w.heap.size + 1]? = some o1 ∧ V.heap[w.heap.size + 1 + 1]? = some o2 ∧ V.heap[w.heap.size + 1 + 1 + 1]? = some o3 ∧ V.heap[w.heap.size + 1 + 1 + 1 + 1]? = some o4 ∧ V.heap.size = w.heap.size + 5 ∧ Below w.heap.size w V := by
  subst h
  have s1 : (w.alloc o0).heap.size = w.heap.size + 1 := by simp
  have s2 : ((w.alloc o0).alloc o1).heap.size = w.heap.size + 1 + 1 := by simp
  have s3 : (((w.alloc o0).alloc o1).alloc o2).heap.size = w.heap.size + 1 + 1 + 1 := by simp
  have s4 : ((((w.alloc o0).alloc o1).alloc o2).alloc o3).heap.size = w.heap.size + 1 + 1 + 1 + 1 := by simp
  refine ⟨?_, ?_, ?_, ?_, ?_, by simp, ?_⟩
  · rw [heap_alloc_old _ _ (by omega), heap_alloc_old _ _ (by omega), heap_alloc_old _ _ (by omega), heap_alloc_old _ _ (by omega)]; exact heap_alloc_new w o0
  · rw [heap_alloc_old _ _ (by omega), heap_alloc_old _ _ (by omega), heap_alloc_old _ _ (by omega), ← s1]; exact heap_alloc_new _ o1
  · rw [heap_alloc_old _ _ (by omega), heap_alloc_old _ _ (by omega), ← s2]; exact heap_alloc_new _ o2
  · rw [heap_alloc_old _ _ (by omega), ← s3]; exact heap_alloc_new _ o3
  · rw [← s4]; exact heap_alloc_new _ o4
  · exact (((((Below.refl _ _).alloc (Nat.le_refl _) _).alloc (by omega) _).alloc (by omega) _).alloc (by omega) _).alloc (by omega) _
end LexT
namespace Go.Proofs.YtngimijiafnheaaGreat
open Go.Instr Go.RowKit LexT
set_option linter.unusedVariables false
set_option maxHeartbeats 2000000 in
theorem wsaid_any (B b : Nat) (l : Bs) (w : World) (h : Bd B b l w) (h0 : l ≠ []) : Calls Tryz.prog 17 #[.pointer (some ⟨b, 0, none⟩)] w fun e w' => e = .returned (.string (mkS l)) ∧ Below B w w' := by
  obtain ⟨p, hB, v, hbk, hown, hne⟩ : ∃ p, Lib.BuilderAt 61 5 B b p (Lib.byteCells l) w := by
    rcases h with h | h
    · exact ⟨_, h⟩
    · exact ⟨_, h⟩
  have hl0 : l.length ≠ 0 := by simpa using h0
  rw [Lib.byteCells_length] at hown
  obtain ⟨g, cap, cur, rfl, hbg, hg, hnc, hcm, hcs, -⟩ : ∃ g cap cur, v = .slice (some ⟨g, 0, none⟩) l.length cap ∧ B ≤ g ∧ w.heap[g]? = some (.cells cur 5 (0, 0)) ∧ l.length ≤ cap ∧ cap ≤ maxLen ∧ cur.size = cap * 1 ∧ True := by
    rcases hown.2 with ⟨_, hz⟩ | ⟨g, cap, cur, hv, h1, h2, h3, h4, h5, _⟩
    · exact absurd hz hl0
    · exact ⟨g, cap, cur, hv, h1, h2, h3, h4, h5, trivial⟩
  have c1 : w.drew.cell? ⟨b, 1, none⟩ = some (.slice (some ⟨g, 0, none⟩) l.length cap) := by
    have : w.drew.heap[b]? = some (.cells #[p, .slice (some ⟨g, 0, none⟩) l.length cap] 61 (0, 0)) := hbk
    rw [Lib.cell_of_heap this]; rfl
  have hSD : (Builtin.unsafeSliceData_ #[57] 80 #[.slice (some ⟨g, 0, none⟩) l.length cap]).run Tryz.prog w.drew = .ok (.pointer (some ⟨g, 0, none⟩)) w.drew := Lib.run_unsafeSliceData_row _ _ _ _ _ _ (by omega)
  have hUS : (Builtin.unsafeString_ #[80, 3] 9 #[.pointer (some ⟨g, 0, none⟩), .int .i64 l.length]).run Tryz.prog w.drew = .ok (.string ⟨l.toArray⟩) (w.drew.freeze ⟨g, 0, none⟩ l.length) := by
    refine Lib.run_unsafeString_row w.drew 80 3 9 5 Tryz.underlying80 (by kernel_rfl) g cur.size (by have hg' : w.drew.heap[g]? = some (.cells cur 5 (0, 0)) := hg; simp [World.shape?, hg']) l h0 (by omega) (by unfold maxLen at hcm; omega) ?_
    intro j x hx
    exact hown.cells (g := g) rfl j (.int .u8 x.toNat) (by simp [Lib.byteCells, hx])
  go_enter Tryz.func17, Tryz.ntmps17
  go_wp2_with fail
  go_region
  all_goals
    go_wp2_with fail
    go_ret
    exact ⟨rfl, Lib.below_freeze (Below.drew (Below.refl B w)) (p := ⟨g, 0, none⟩) hbg _⟩
set_option maxHeartbeats 1000000 in
theorem wtext1_idle (p q : Addr) (w : World) :
    CallsD Tryz.prog 14 #[.pointer (some p), .pointer (some q)] .returning w fun e u' w' => e = .returned (.tuple #[]) ∧ u' = .returning ∧ w' = w := by
  have hta : ∀ w : World, (typeAssert .nilIface 20 28 true).run Tryz.prog w = .ok (.tuple #[.int .i64 0, .bool false]) w := fun _ => by kernel_rfl
  refine callsD_of_wpS Tryz.func14 rfl fun c₀ cs hu => ?_
  apply wpS_seq
  apply wpS_region
  simp [wpOpsS, go_sem, recoverD, hu, hta, Tryz.ntmps14, Exit.thenS]
  refine wpS_of_wp ?_
  simp only [Array.replicate, List.replicate, List.setIfInBounds_toArray, List.set_cons_succ, List.set_cons_zero, List.append_toArray, List.cons_append, List.nil_append]
  clear hta
  go_wp2_with fail
  cases c₀
  simp_all +zetaDelta [bodyPostS, results, Tryz.results14]
set_option maxHeartbeats 4000000 in
theorem WText_any (x : Tx) (vs : List Value) (w : World) (ha : TxAt w x vs) (hwf : wfT x) (hg : GoodV (txV x)) (hlen : (txW x).length ≤ 1000000) (m : Int) (hm : w.cell? ⟨0, 0, none⟩ = some (.int .i64 m)) :
    Calls Tryz.prog 7 #[.agg vs.toArray] w fun e w' => e = .returned (.tuple #[.string (mkS (txW x)), .int .i64 0]) ∧ Below w.heap.size w w' := by
  have hmf : ∀ (fn : Fn) (first cap : Array Value) (w : World), (Instr.makeFunc fn first cap).run Tryz.prog w = .ok (.func fn first cap) w := fun _ _ _ _ => rfl
  have hmm := @run_makeMap Tryz.prog
  have ha0 := ha
  obtain ⟨ao, n, c, bo, mm, d, rfl, _, _⟩ := ha
  have hcost : cT x ≤ (txW x).length := text_said x (fun r hr a ha h => ((hwf.2 r hr).2.2.2 a ha).2.1 h |>.1)
  have hne : txW x ≠ [] := by
    intro e
    have := congrArg List.length e
    unfold txW at this
    simp at this
  have HLOOK := Lib.hid (fun b g ww hb hl => ltext_yes w w.heap.size b g (Nat.le_refl _) m hm x _ ha0 hwf hg ww 0 hb hl (by omega))
  have HWR := Lib.hid (fun B b hB ww hb hbd => wtext_any w B b hB x _ ha0 ww [] hb hbd (by simp; omega))
  have HNE := Lib.hid hne
  obtain ⟨O, hO⟩ : ∃ O, txW x = O := ⟨_, rfl⟩
  rw [hO] at HWR HNE ⊢
  clear hwf hg hlen hm ha0 hcost hne hO
  go_enter_defers Tryz.func7, Tryz.ntmps7
  go_upto_region 3 with fail
  obtain ⟨W, hW⟩ : ∃ V, V = ((((w.alloc (.cells #[.slice ao n c, .slice bo mm d] 25)).alloc (.cells #[.string ⟨#[]⟩] 9)).alloc (.cells #[.int .i64 0] 28)).alloc (.map #[] 0)).alloc (.cells #[.map (some (w.heap.size + 1 + 1 + 1)), .int .i64 0] 54) := ⟨_, rfl⟩
  rw [← hW]
  obtain ⟨k0, k1, k2, k3, k4, ks, kb⟩ := alloc5 hW
  have HLW : Hid (Lks 54 w.heap.size (w.heap.size + 1 + 1 + 1 + 1) (w.heap.size + 1 + 1 + 1) 0 W) := by
    refine ⟨by omega, by omega, by omega, k4, #[], 0, k3, ?_, ?_⟩ <;> (intro e he; simp at he)
  have HB := Lib.hid kb
  have HK := Lib.hid (And.intro k0 (And.intro k1 (And.intro k2 ks)))
  have H1 := Lib.hid (HLOOK.out _ _ W kb HLW.out)
  obtain ⟨⟨t0, t1⟩, _⟩ := two_facts k0
  clear hW k0 k1 k2 k3 k4 ks kb
  go_wp2_with fail
  refine H1.out.mono ?_
  rintro e w2 ⟨rfl, -, hf2⟩
  have k0 := (hf2.block w.heap.size (by have := HK.out.2.2.2; omega) (by omega) (by omega)).trans HK.out.1
  have k1 := (hf2.block (w.heap.size + 1) (by have := HK.out.2.2.2; omega) (by omega) (by omega)).trans HK.out.2.1
  have k2 := (hf2.block (w.heap.size + 1 + 1) (by have := HK.out.2.2.2; omega) (by omega) (by omega)).trans HK.out.2.2.1
  have hsz := hf2.size
  have HZ : Hid (w.heap.size + 5 ≤ w2.heap.size) := by have := HK.out.2.2.2; show _ ≤ _; omega
  have HB2 : Hid (Below w.heap.size w w2) := HB.out.trans (hf2.below (by omega) (by omega) HB.out.size)
  have HK2 := Lib.hid (And.intro k0 (And.intro k1 k2))
  clear t0 t1 hf2 k0 k1 k2 hsz
  go_upto_region 5 with fail
  obtain ⟨W3, hW3⟩ : ∃ V, V = w2.alloc (.cells #[.pointer none, .slice none 0 0] 61) := ⟨_, rfl⟩
  rw [← hW3]
  have HBD : Hid (Bd w2.heap.size w2.heap.size [] W3) := by rw [hW3]; exact Lib.fresh_isBuilder 61 5 w2
  have HB3 : Hid (Below w2.heap.size w2 W3) := by rw [hW3]; exact (Below.refl _ _).alloc (Nat.le_refl _) _
  have H2 := Lib.hid (HWR.out w2.heap.size w2.heap.size HB2.out.size W3 (HB2.out.trans (HB3.out.mono HB2.out.size)) HBD.out)
  have k0 := (HB3.out.block w.heap.size (by have := HZ.out; omega)).trans HK2.out.1
  obtain ⟨⟨t0, t1⟩, _⟩ := two_facts k0
  clear hW3 k0
  go_wp2_with fail
  refine H2.out.mono ?_
  rintro e w4 ⟨rfl, hb4, hf4⟩
  have HB4 : Hid (Below w2.heap.size w2 w4) := HB3.out.trans hf4.below
  rw [List.nil_append] at hb4
  have H3 := Lib.hid (wsaid_any w2.heap.size w2.heap.size O w4 hb4 HNE.out)
  have HSZ4 : Hid (w2.heap.size ≤ w4.heap.size) := HB4.out.size
  clear hb4 hf4 t0 t1
  go_wp2_with fail
  refine H3.out.mono ?_
  rintro e w5 ⟨rfl, hb5⟩
  have HB5 : Hid (Below w2.heap.size w2 w5) := HB4.out.trans hb5
  have k1 := (HB5.out.block (w.heap.size + 1) (by have := HZ.out; omega)).trans HK2.out.2.1
  have k2 := (HB5.out.block (w.heap.size + 1 + 1) (by have := HZ.out; omega)).trans HK2.out.2.2
  have c1 : w5.cell? ⟨w.heap.size + 1, 0, none⟩ = some (.string ⟨#[]⟩) := by rw [cell_of_row w5 _ 0 _ 9 (0, 0) k1]; rfl
  have c2 : w5.cell? ⟨w.heap.size + 1 + 1, 0, none⟩ = some (.int .i64 0) := by rw [cell_of_row w5 _ 0 _ 28 (0, 0) k2]; rfl
  have f1 : w5.frozen? ⟨w.heap.size + 1, 0, none⟩ = false := by simp [World.frozen?, k1]
  have f2 : w5.frozen? ⟨w.heap.size + 1 + 1, 0, none⟩ = false := by simp [World.frozen?, k2]
  have HBF : Hid (Below w.heap.size w ((w5.setCell ⟨w.heap.size + 1, 0, none⟩ (.string (mkS O))).setCell ⟨w.heap.size + 1 + 1, 0, none⟩ (.int .i64 0))) := ((HB2.out.trans (HB5.out.mono HB2.out.size)).setCell (p := ⟨w.heap.size + 1, 0, none⟩) (by show w.heap.size ≤ w.heap.size + 1; omega) _).setCell (p := ⟨w.heap.size + 1 + 1, 0, none⟩) (by show w.heap.size ≤ w.heap.size + 1 + 1; omega) _
  have HCF : Hid (((w5.setCell ⟨w.heap.size + 1, 0, none⟩ (.string (mkS O))).setCell ⟨w.heap.size + 1 + 1, 0, none⟩ (.int .i64 0)).cell? ⟨w.heap.size + 1, 0, none⟩ = some (.string (mkS O)) ∧ ((w5.setCell ⟨w.heap.size + 1, 0, none⟩ (.string (mkS O))).setCell ⟨w.heap.size + 1 + 1, 0, none⟩ (.int .i64 0)).cell? ⟨w.heap.size + 1 + 1, 0, none⟩ = some (.int .i64 0)) := by
    constructor <;> simp [go_sem, c1, c2]
  clear hb5 k1 k2
  go_wp2_with fail
  refine leaves_cons (f := 14) (args := #[.pointer (some ⟨w.heap.size + 1, 0, none⟩), .pointer (some ⟨w.heap.size + 1 + 1, 0, none⟩)]) (by simp) (by simp [go_sem]) ?_
  refine (wtext1_idle ⟨w.heap.size + 1, 0, none⟩ ⟨w.heap.size + 1 + 1, 0, none⟩ _).mono ?_
  rintro e u' w'' ⟨rfl, rfl, rfl⟩
  obtain ⟨z1, z2⟩ := HCF.out
  generalize ((w5.setCell ⟨w.heap.size + 1, 0, none⟩ (.string (mkS O))).setCell ⟨w.heap.size + 1 + 1, 0, none⟩ (.int .i64 0)) = Wf at *
  simp [Leaves, settle, results, Tryz.results7, go_sem, z1, z2]
  exact HBF.out
end Go.Proofs.YtngimijiafnheaaGreat
set_option linter.unusedSimpArgs false
namespace LexT
open Go Go.RowKit
set_option linter.unusedVariables false
def exWS : Bs := [37, 116, 111, 107, 101, 110, 32, 60, 105, 110, 116, 62, 32, 78, 59, 10, 37, 37, 10, 108, 40, 88, 41, 58, 32, 88, 10, 9, 124, 32, 108, 40, 88, 41, 32, 78, 32, 37, 112, 114, 101, 99, 32, 78, 32, 123, 97, 125, 10, 9, 59, 10]
def exW : Tx := ⟨[⟨[116, 111, 107, 101, 110], [105, 110, 116], [[78]], 0⟩],
  [⟨[108], [[88]], [⟨[.mk [88] [] 25], [], false, [], 0, 25⟩, ⟨[.mk [108] [.mk [88] [] 32] 30, .mk [78] [] 35], [78], true, [97], 46, 30⟩], 19⟩]⟩
set_option maxRecDepth 100000 in
theorem exW_told : textT exWS = .ok exW := by rfl
set_option maxRecDepth 100000 in
theorem exW_written : txW exW = exWS := by rfl
/-- A row of one, of two, of none, that was written out. -/
theorem rw_one {α : Type} {w : World} {g k : Nat} {T : TypeId} {P : α → List Value → Prop} {x : α} {ys : List Value} (h : w.heap[g]? = some (.cells ys.toArray T (0, 0))) (hp : P x ys) : RwAt w k P [x] (some ⟨g, 0, none⟩) 1 1 := by
  refine ⟨rfl, by unfold maxLen; omega, fun _ => Nat.le_refl _, fun i y hy => ?_⟩
  cases i with
  | zero =>
    simp at hy; subst hy
    refine ⟨g, ys, rfl, (Array.getElem?_eq_some_iff.1 h).1, hp, fun j u hj => ?_⟩
    rw [Nat.zero_mul, Nat.zero_add]
    simp [World.cell?, h, hj]
  | succ i => simp at hy
theorem rw_two {α : Type} {w : World} {g k : Nat} {T : TypeId} {P : α → List Value → Prop} {x y : α} {ys zs : List Value} (h : w.heap[g]? = some (.cells (ys ++ zs).toArray T (0, 0))) (hl : ys.length = k) (hp : P x ys) (hq : P y zs) : RwAt w k P [x, y] (some ⟨g, 0, none⟩) 2 2 := by
  refine ⟨rfl, by unfold maxLen; omega, fun _ => Nat.le_refl _, fun i z hz => ?_⟩
  match i, hz with
  | 0, hz =>
    simp at hz; subst hz
    refine ⟨g, ys, rfl, (Array.getElem?_eq_some_iff.1 h).1, hp, fun j u hj => ?_⟩
    rw [Nat.zero_mul, Nat.zero_add]
    have : (ys ++ zs)[j]? = some u := by rw [List.getElem?_append_left (List.getElem?_eq_some_iff.1 hj).1]; exact hj
    simp only [World.cell?, h]
    simpa using this
  | 1, hz =>
    simp at hz; subst hz
    refine ⟨g, zs, rfl, (Array.getElem?_eq_some_iff.1 h).1, hq, fun j u hj => ?_⟩
    have : (ys ++ zs)[1 * k + j]? = some u := by rw [List.getElem?_append_right (by omega), show 1 * k + j - ys.length = j by omega]; exact hj
    simp only [World.cell?, h]
    simpa using this
  | i + 2, hz => simp at hz
theorem rw_nil {α : Type} {w : World} {k : Nat} {P : α → List Value → Prop} : RwAt w k P [] none 0 0 := ⟨rfl, by unfold maxLen; omega, fun h => absurd h (by omega), fun i x h => by simp at h⟩
end LexT
namespace Go.Proofs.YtngimijiafnheaaGreat
open Go.Instr Go.RowKit LexT
set_option linter.unusedVariables false
theorem small_lit {W : World} {g1 g2 g3 g4 g5 g6 g7 g8 : Nat}
    (h1 : W.heap[g1]? = some (.cells #[.string ⟨#[88]⟩, .slice none 0 0, .int .i64 0] 50 (0, 0)))
    (h2 : W.heap[g2]? = some (.cells #[.string ⟨#[108]⟩, .slice (some ⟨g1, 0, none⟩) 1 1, .int .i64 0, .string ⟨#[78]⟩, .slice none 0 0, .int .i64 0] 50 (0, 0)))
    (h3 : W.heap[g3]? = some (.cells #[.string ⟨#[78]⟩] 9 (0, 0)))
    (h4 : W.heap[g4]? = some (.cells #[.string ⟨#[116, 111, 107, 101, 110]⟩, .string ⟨#[105, 110, 116]⟩, .slice (some ⟨g3, 0, none⟩) 1 1, .int .i64 0] 41 (0, 0)))
    (h5 : W.heap[g5]? = some (.cells #[.string ⟨#[88]⟩] 9 (0, 0)))
    (h6 : W.heap[g6]? = some (.cells #[.string ⟨#[88]⟩, .slice none 0 0, .int .i64 0] 50 (0, 0)))
    (h7 : W.heap[g7]? = some (.cells #[.slice (some ⟨g6, 0, none⟩) 1 1, .string ⟨#[]⟩, .bool false, .string ⟨#[]⟩, .int .i64 0, .int .i64 0, .slice (some ⟨g2, 0, none⟩) 2 2, .string ⟨#[78]⟩, .bool true, .string ⟨#[97]⟩, .int .i64 0, .int .i64 0] 47 (0, 0)))
    (h8 : W.heap[g8]? = some (.cells #[.string ⟨#[108]⟩, .slice (some ⟨g5, 0, none⟩) 1 1, .slice (some ⟨g7, 0, none⟩) 2 2, .int .i64 0] 44 (0, 0))) :
    TxAt W exW [.slice (some ⟨g4, 0, none⟩) 1 1, .slice (some ⟨g8, 0, none⟩) 1 1] := by
  have x1 : WdAt W (.mk [88] [] 32) [.string ⟨#[88]⟩, .slice none 0 0, .int .i64 0] := WdAt.of rw_nil
  have x6 : WdAt W (.mk [88] [] 25) [.string ⟨#[88]⟩, .slice none 0 0, .int .i64 0] := WdAt.of rw_nil
  have xn : WdAt W (.mk [78] [] 35) [.string ⟨#[78]⟩, .slice none 0 0, .int .i64 0] := WdAt.of rw_nil
  have xl : WdAt W (.mk [108] [.mk [88] [] 32] 30) [.string ⟨#[108]⟩, .slice (some ⟨g1, 0, none⟩) 1 1, .int .i64 0] := WdAt.of (rw_one (ys := [.string ⟨#[88]⟩, .slice none 0 0, .int .i64 0]) h1 x1)
  have a1 : AlAt W ⟨[.mk [88] [] 25], [], false, [], 0, 25⟩ [.slice (some ⟨g6, 0, none⟩) 1 1, .string ⟨#[]⟩, .bool false, .string ⟨#[]⟩, .int .i64 0, .int .i64 0] := ⟨_, _, _, _, _, rfl, rw_one (ys := [.string ⟨#[88]⟩, .slice none 0 0, .int .i64 0]) h6 x6⟩
  have a2 : AlAt W ⟨[.mk [108] [.mk [88] [] 32] 30, .mk [78] [] 35], [78], true, [97], 46, 30⟩ [.slice (some ⟨g2, 0, none⟩) 2 2, .string ⟨#[78]⟩, .bool true, .string ⟨#[97]⟩, .int .i64 0, .int .i64 0] := ⟨_, _, _, _, _, rfl, rw_two (ys := [.string ⟨#[108]⟩, .slice (some ⟨g1, 0, none⟩) 1 1, .int .i64 0]) (zs := [.string ⟨#[78]⟩, .slice none 0 0, .int .i64 0]) h2 rfl xl xn⟩
  have r1 : RuAt W ⟨[108], [[88]], [⟨[.mk [88] [] 25], [], false, [], 0, 25⟩, ⟨[.mk [108] [.mk [88] [] 32] 30, .mk [78] [] 35], [78], true, [97], 46, 30⟩], 19⟩ [.string ⟨#[108]⟩, .slice (some ⟨g5, 0, none⟩) 1 1, .slice (some ⟨g7, 0, none⟩) 2 2, .int .i64 0] :=
    ⟨_, _, _, _, _, _, _, rfl, rw_one (ys := [.string ⟨#[88]⟩]) h5 rfl, rw_two (ys := [.slice (some ⟨g6, 0, none⟩) 1 1, .string ⟨#[]⟩, .bool false, .string ⟨#[]⟩, .int .i64 0, .int .i64 0]) (zs := [.slice (some ⟨g2, 0, none⟩) 2 2, .string ⟨#[78]⟩, .bool true, .string ⟨#[97]⟩, .int .i64 0, .int .i64 0]) h7 rfl a1 a2⟩
  have d1 : DeAt W ⟨[116, 111, 107, 101, 110], [105, 110, 116], [[78]], 0⟩ [.string ⟨#[116, 111, 107, 101, 110]⟩, .string ⟨#[105, 110, 116]⟩, .slice (some ⟨g3, 0, none⟩) 1 1, .int .i64 0] := ⟨_, _, _, _, rfl, rw_one (ys := [.string ⟨#[78]⟩]) h3 rfl⟩
  exact ⟨_, _, _, _, _, _, rfl, rw_one (ys := [.string ⟨#[116, 111, 107, 101, 110]⟩, .string ⟨#[105, 110, 116]⟩, .slice (some ⟨g3, 0, none⟩) 1 1, .int .i64 0]) h4 d1, rw_one (ys := [.string ⟨#[108]⟩, .slice (some ⟨g5, 0, none⟩) 1 1, .slice (some ⟨g7, 0, none⟩) 2 2, .int .i64 0]) h8 r1⟩
theorem wext_old {w : World} {n : Nat} {o o' : Obj} (h : w.heap[n]? = some o) : (w.alloc o').heap[n]? = some o := (heap_alloc_old _ _ (Array.getElem?_eq_some_iff.1 h).1).trans h
theorem wext_new {w : World} {n : Nat} {o : Obj} (h : w.heap.size = n) : (w.alloc o).heap[n]? = some o := by subst h; exact heap_alloc_new w o
theorem wext_size {w : World} {n : Nat} {o : Obj} (h : w.heap.size = n) : (w.alloc o).heap.size = n + 1 := by simp [h]
/-- What is panicked with. -/
def shapeP : List PanicEntry := [{ v := .iface 28 (.int .i64 4), recovered := false }]
theorem wmust_no (w : World) : Calls Tryz.prog 44 #[.bool false] w fun e w' => e = .panicked shapeP ∧ w' = w := by
  go_enter Tryz.func44, Tryz.ntmps44
  go_wp2_with fail
  exact ⟨rfl, rfl, rfl⟩
set_option maxHeartbeats 4000000 in
theorem ldecl_bad (b : Nat) (w : World) : Calls Tryz.prog 25 #[.pointer (some ⟨b, 0, none⟩), .agg #[.string ⟨#[108, 101, 102, 116]⟩, .string ⟨#[]⟩, .slice none 0 0, .int .i64 0]] w fun e w' => e = .panicked shapeP ∧ Below w.heap.size w w' := by
  have HM := Lib.hid (fun ww => wmust_yes ww)
  have HN := Lib.hid (fun ww => wmust_no ww)
  go_enter Tryz.func25, Tryz.ntmps25
  go_wp2_with fail
  refine (HM.out _).mono ?_
  rintro e w1 ⟨rfl, hw1⟩
  have hb1 : Below w.heap.size w w1 := by rw [hw1]; exact (Below.refl _ _).alloc (Nat.le_refl _) _
  have k1 : w1.heap[w.heap.size]? = some (.cells #[.string ⟨#[108, 101, 102, 116]⟩, .string ⟨#[]⟩, .slice none 0 0, .int .i64 0] 41 (0, 0)) := by rw [hw1]; exact heap_alloc_new w _
  obtain ⟨⟨t0, t1, t2, t3⟩, _⟩ := four_facts k1
  have HB := Lib.hid hb1
  clear hw1 hb1 k1
  go_wp2_with fail
  refine (HN.out _).mono ?_
  rintro e w2 ⟨rfl, rfl⟩
  exact ⟨rfl, rfl, HB.out⟩
set_option maxHeartbeats 4000000 in
theorem ltext_bad (b g : Nat) (w : World) (hr : w.heap[g]? = some (.cells #[.string ⟨#[108, 101, 102, 116]⟩, .string ⟨#[]⟩, .slice none 0 0, .int .i64 0] 41 (0, 0))) :
    Calls Tryz.prog 15 #[.pointer (some ⟨b, 0, none⟩), .agg #[.slice (some ⟨g, 0, none⟩) 1 1, .slice none 0 0]] w fun e w' => e = .panicked shapeP ∧ Below w.heap.size w w' := by
  have HD := Lib.hid (fun ww => ldecl_bad b ww)
  have hglt : g < w.heap.size := (Array.getElem?_eq_some_iff.1 hr).1
  have HR := Lib.hid hr
  clear hr
  go_enter Tryz.func15, Tryz.ntmps15
  go_upto_region 1 with fail
  obtain ⟨W, hW⟩ : ∃ V, V = w.alloc (.cells #[.slice (some ⟨g, 0, none⟩) 1 1, .slice none 0 0] 25) := ⟨_, rfl⟩
  rw [← hW]
  obtain ⟨hk5, hWs, hBW⟩ := two_new hW
  obtain ⟨⟨t0, t1⟩, _⟩ := two_facts hk5
  obtain ⟨⟨y0, y1, y2, y3⟩, _⟩ := four_facts ((hBW.block g hglt).trans HR.out)
  have HB := Lib.hid hBW
  have hgl : g < W.heap.size := by omega
  clear hW hk5 hWs hBW
  go_wp2_with fail
  go_loopg [11] 1 (fun gg v wr => v = .int .i64 0 ∧ wr = W)
  case atStart => exact ⟨rfl, rfl⟩
  case round =>
    obtain ⟨rfl, rfl⟩ := hrel
    go_upto_region 4 with fail
    obtain ⟨W2, hW2⟩ : ∃ V, V = wr.alloc (.cells #[.string ⟨#[108, 101, 102, 116]⟩, .string ⟨#[]⟩, .slice none 0 0, .int .i64 0] 41) := ⟨_, rfl⟩
    rw [← hW2]
    obtain ⟨hk6, hWs6, hBW6⟩ := four_new hW2
    obtain ⟨⟨z0, z1, z2, z3⟩, _⟩ := four_facts hk6
    have HB2 : Hid (Below w.heap.size w W2) := HB.out.trans (hBW6.mono HB.out.size)
    clear hW2 hk6 hWs6 hBW6 y0 y1 y2 y3 t0 t1
    go_wp2_with fail
    refine (HD.out _).mono ?_
    rintro e w4 ⟨rfl, hb4⟩
    exact ⟨rfl, rfl, HB2.out.trans (hb4.mono HB2.out.size)⟩
set_option maxHeartbeats 1000000 in
theorem wtext1_catch (p q : Nat) (x y : Value) (older : List PanicEntry) (w : World) (hpq : p ≠ q) (h0 : w.cell? ⟨p, 0, none⟩ = some x) (z0 : w.frozen? ⟨p, 0, none⟩ = false) (h1 : w.cell? ⟨q, 0, none⟩ = some y) (z1 : w.frozen? ⟨q, 0, none⟩ = false) :
    CallsD Tryz.prog 14 #[.pointer (some ⟨p, 0, none⟩), .pointer (some ⟨q, 0, none⟩)] (.panicking ({ v := .iface 28 (.int .i64 4), recovered := false } :: older)) w fun e u' w' =>
      e = .returned (.tuple #[]) ∧ u' = .panicking ({ v := .iface 28 (.int .i64 4), recovered := true } :: older) ∧ w' = (w.setCell ⟨p, 0, none⟩ (.string ⟨#[]⟩)).setCell ⟨q, 0, none⟩ (.int .i64 4) := by
  have hta : ∀ w : World, (typeAssert (.iface 28 (.int .i64 4)) 20 28 true).run Tryz.prog w = .ok (.tuple #[.int .i64 4, .bool true]) w := fun _ => by kernel_rfl
  refine callsD_of_wpS Tryz.func14 rfl fun c₀ cs hu => ?_
  apply wpS_seq
  apply wpS_region
  simp [wpOpsS, go_sem, recoverD, hu, hta, Tryz.ntmps14, Exit.thenS]
  refine wpS_of_wp ?_
  simp only [Array.replicate, List.replicate, List.setIfInBounds_toArray, List.set_cons_succ, List.set_cons_zero, List.append_toArray, List.cons_append, List.nil_append]
  clear hta
  go_wp2_with fail
  simp +zetaDelta [bodyPostS, results, Tryz.results14]
set_option maxHeartbeats 4000000 in
theorem WText_bad (g : Nat) (w : World) (hr : w.heap[g]? = some (.cells #[.string ⟨#[108, 101, 102, 116]⟩, .string ⟨#[]⟩, .slice none 0 0, .int .i64 0] 41 (0, 0))) :
    Calls Tryz.prog 7 #[.agg #[.slice (some ⟨g, 0, none⟩) 1 1, .slice none 0 0]] w fun e w' => e = .returned (.tuple #[.string ⟨#[]⟩, .int .i64 4]) ∧ Below w.heap.size w w' := by
  have hmf : ∀ (fn : Fn) (first cap : Array Value) (w : World), (Instr.makeFunc fn first cap).run Tryz.prog w = .ok (.func fn first cap) w := fun _ _ _ _ => rfl
  have hmm := @run_makeMap Tryz.prog
  have hglt : g < w.heap.size := (Array.getElem?_eq_some_iff.1 hr).1
  have HR := Lib.hid hr
  clear hr
  go_enter_defers Tryz.func7, Tryz.ntmps7
  go_upto_region 3 with fail
  obtain ⟨W, hW⟩ : ∃ V, V = ((((w.alloc (.cells #[.slice (some ⟨g, 0, none⟩) 1 1, .slice none 0 0] 25)).alloc (.cells #[.string ⟨#[]⟩] 9)).alloc (.cells #[.int .i64 0] 28)).alloc (.map #[] 0)).alloc (.cells #[.map (some (w.heap.size + 1 + 1 + 1)), .int .i64 0] 54) := ⟨_, rfl⟩
  rw [← hW]
  obtain ⟨k0, k1, k2, k3, k4, ks, kb⟩ := alloc5 hW
  have HB := Lib.hid kb
  have HK := Lib.hid (And.intro k1 (And.intro k2 ks))
  have H1 := Lib.hid (ltext_bad (w.heap.size + 1 + 1 + 1 + 1) g W ((kb.block g hglt).trans HR.out))
  obtain ⟨⟨t0, t1⟩, _⟩ := two_facts k0
  clear hW k0 k1 k2 k3 k4 ks kb
  go_wp2_with fail
  refine H1.out.mono ?_
  rintro e w5 ⟨rfl, hb5⟩
  have HB5 := Lib.hid hb5
  have k1 := (hb5.block (w.heap.size + 1) (by have := HK.out.2.2; omega)).trans HK.out.1
  have k2 := (hb5.block (w.heap.size + 1 + 1) (by have := HK.out.2.2; omega)).trans HK.out.2.1
  have c1 : w5.cell? ⟨w.heap.size + 1, 0, none⟩ = some (.string ⟨#[]⟩) := by rw [cell_of_row w5 _ 0 _ 9 (0, 0) k1]; rfl
  have c2 : w5.cell? ⟨w.heap.size + 1 + 1, 0, none⟩ = some (.int .i64 0) := by rw [cell_of_row w5 _ 0 _ 28 (0, 0) k2]; rfl
  have f1 : w5.frozen? ⟨w.heap.size + 1, 0, none⟩ = false := by simp [World.frozen?, k1]
  have f2 : w5.frozen? ⟨w.heap.size + 1 + 1, 0, none⟩ = false := by simp [World.frozen?, k2]
  have HBF : Hid (Below w.heap.size w ((w5.setCell ⟨w.heap.size + 1, 0, none⟩ (.string ⟨#[]⟩)).setCell ⟨w.heap.size + 1 + 1, 0, none⟩ (.int .i64 4))) := ((HB.out.trans (HB5.out.mono HB.out.size)).setCell (p := ⟨w.heap.size + 1, 0, none⟩) (by show w.heap.size ≤ w.heap.size + 1; omega) _).setCell (p := ⟨w.heap.size + 1 + 1, 0, none⟩) (by show w.heap.size ≤ w.heap.size + 1 + 1; omega) _
  have HCF : Hid (((w5.setCell ⟨w.heap.size + 1, 0, none⟩ (.string ⟨#[]⟩)).setCell ⟨w.heap.size + 1 + 1, 0, none⟩ (.int .i64 4)).cell? ⟨w.heap.size + 1, 0, none⟩ = some (.string ⟨#[]⟩) ∧ ((w5.setCell ⟨w.heap.size + 1, 0, none⟩ (.string ⟨#[]⟩)).setCell ⟨w.heap.size + 1 + 1, 0, none⟩ (.int .i64 4)).cell? ⟨w.heap.size + 1 + 1, 0, none⟩ = some (.int .i64 4)) := by
    constructor <;> simp [go_sem, c1, c2]
  clear hb5 k1 k2
  refine leaves_cons (f := 14) (args := #[.pointer (some ⟨w.heap.size + 1, 0, none⟩), .pointer (some ⟨w.heap.size + 1 + 1, 0, none⟩)]) (by simp) (by simp [go_sem]) ?_
  refine (wtext1_catch (w.heap.size + 1) (w.heap.size + 1 + 1) _ _ [] w5 (by omega) c1 f1 c2 f2).mono ?_
  rintro e u' w'' ⟨rfl, rfl, rfl⟩
  obtain ⟨z1, z2⟩ := HCF.out
  generalize ((w5.setCell ⟨w.heap.size + 1, 0, none⟩ (.string ⟨#[]⟩)).setCell ⟨w.heap.size + 1 + 1, 0, none⟩ (.int .i64 4)) = Wf at *
  simp [Leaves, settle, results, Tryz.results7, go_sem, z1, z2]
  exact HBF.out
set_option maxHeartbeats 4000000 in
theorem small_any (w : World) : Calls Tryz.prog 11 #[] w fun e w' => (∃ g h : Nat, e = .returned (.agg #[.slice (some ⟨g, 0, none⟩) 1 1, .slice (some ⟨h, 0, none⟩) 1 1]) ∧ TxAt w' exW [.slice (some ⟨g, 0, none⟩) 1 1, .slice (some ⟨h, 0, none⟩) 1 1]) ∧ Below w.heap.size w w' := by
  go_enter Tryz.func11, Tryz.ntmps11
  go_wp2_with fail
  obtain ⟨W, hW⟩ : ∃ W, W = ((((((((w.alloc (.cells #[.slice (some ⟨w.heap.size + 1 + 1 + 1 + 1, 0, none⟩) 1 1, .slice (some ⟨w.heap.size + 1 + 1 + 1 + 1 + 1 + 1 + 1 + 1, 0, none⟩) 1 1] 25)).alloc (.cells #[.string ⟨#[88]⟩, .slice none 0 0, .int .i64 0] 50)).alloc (.cells #[.string ⟨#[108]⟩, .slice (some ⟨w.heap.size + 1, 0, none⟩) 1 1, .int .i64 0, .string ⟨#[78]⟩, .slice none 0 0, .int .i64 0] 50)).alloc (.cells #[.string ⟨#[78]⟩] 9)).alloc (.cells #[.string ⟨#[116, 111, 107, 101, 110]⟩, .string ⟨#[105, 110, 116]⟩, .slice (some ⟨w.heap.size + 1 + 1 + 1, 0, none⟩) 1 1, .int .i64 0] 41)).alloc (.cells #[.string ⟨#[88]⟩] 9)).alloc (.cells #[.string ⟨#[88]⟩, .slice none 0 0, .int .i64 0] 50)).alloc (.cells #[.slice (some ⟨w.heap.size + 1 + 1 + 1 + 1 + 1 + 1, 0, none⟩) 1 1, .string ⟨#[]⟩, .bool false, .string ⟨#[]⟩, .int .i64 0, .int .i64 0, .slice (some ⟨w.heap.size + 1 + 1, 0, none⟩) 2 2, .string ⟨#[78]⟩, .bool true, .string ⟨#[97]⟩, .int .i64 0, .int .i64 0] 47)).alloc (.cells #[.string ⟨#[108]⟩, .slice (some ⟨w.heap.size + 1 + 1 + 1 + 1 + 1, 0, none⟩) 1 1, .slice (some ⟨w.heap.size + 1 + 1 + 1 + 1 + 1 + 1 + 1, 0, none⟩) 2 2, .int .i64 0] 44) := ⟨_, rfl⟩
  rw [← hW]
  have h0 : W.heap[w.heap.size]? = some (.cells #[.slice (some ⟨w.heap.size + 1 + 1 + 1 + 1, 0, none⟩) 1 1, .slice (some ⟨w.heap.size + 1 + 1 + 1 + 1 + 1 + 1 + 1 + 1, 0, none⟩) 1 1] 25) := by
    rw [hW]
    refine wext_old ?_
    refine wext_old ?_
    refine wext_old ?_
    refine wext_old ?_
    refine wext_old ?_
    refine wext_old ?_
    refine wext_old ?_
    refine wext_old ?_
    exact wext_new (by first | rfl | simp only [World.size_alloc])
  have h1 : W.heap[w.heap.size + 1]? = some (.cells #[.string ⟨#[88]⟩, .slice none 0 0, .int .i64 0] 50) := by
    rw [hW]
    refine wext_old ?_
    refine wext_old ?_
    refine wext_old ?_
    refine wext_old ?_
    refine wext_old ?_
    refine wext_old ?_
    refine wext_old ?_
    exact wext_new (by first | rfl | simp only [World.size_alloc])
  have h2 : W.heap[w.heap.size + 1 + 1]? = some (.cells #[.string ⟨#[108]⟩, .slice (some ⟨w.heap.size + 1, 0, none⟩) 1 1, .int .i64 0, .string ⟨#[78]⟩, .slice none 0 0, .int .i64 0] 50) := by
    rw [hW]
    refine wext_old ?_
    refine wext_old ?_
    refine wext_old ?_
    refine wext_old ?_
    refine wext_old ?_
    refine wext_old ?_
    exact wext_new (by first | rfl | simp only [World.size_alloc])
  have h3 : W.heap[w.heap.size + 1 + 1 + 1]? = some (.cells #[.string ⟨#[78]⟩] 9) := by
    rw [hW]
    refine wext_old ?_
    refine wext_old ?_
    refine wext_old ?_
    refine wext_old ?_
    refine wext_old ?_
    exact wext_new (by first | rfl | simp only [World.size_alloc])
  have h4 : W.heap[w.heap.size + 1 + 1 + 1 + 1]? = some (.cells #[.string ⟨#[116, 111, 107, 101, 110]⟩, .string ⟨#[105, 110, 116]⟩, .slice (some ⟨w.heap.size + 1 + 1 + 1, 0, none⟩) 1 1, .int .i64 0] 41) := by
    rw [hW]
    refine wext_old ?_
    refine wext_old ?_
    refine wext_old ?_
    refine wext_old ?_
    exact wext_new (by first | rfl | simp only [World.size_alloc])
  have h5 : W.heap[w.heap.size + 1 + 1 + 1 + 1 + 1]? = some (.cells #[.string ⟨#[88]⟩] 9) := by
    rw [hW]
    refine wext_old ?_
    refine wext_old ?_
    refine wext_old ?_
    exact wext_new (by first | rfl | simp only [World.size_alloc])
  have h6 : W.heap[w.heap.size + 1 + 1 + 1 + 1 + 1 + 1]? = some (.cells #[.string ⟨#[88]⟩, .slice none 0 0, .int .i64 0] 50) := by
    rw [hW]
    refine wext_old ?_
    refine wext_old ?_
    exact wext_new (by first | rfl | simp only [World.size_alloc])
  have h7 : W.heap[w.heap.size + 1 + 1 + 1 + 1 + 1 + 1 + 1]? = some (.cells #[.slice (some ⟨w.heap.size + 1 + 1 + 1 + 1 + 1 + 1, 0, none⟩) 1 1, .string ⟨#[]⟩, .bool false, .string ⟨#[]⟩, .int .i64 0, .int .i64 0, .slice (some ⟨w.heap.size + 1 + 1, 0, none⟩) 2 2, .string ⟨#[78]⟩, .bool true, .string ⟨#[97]⟩, .int .i64 0, .int .i64 0] 47) := by
    rw [hW]
    refine wext_old ?_
    exact wext_new (by first | rfl | simp only [World.size_alloc])
  have h8 : W.heap[w.heap.size + 1 + 1 + 1 + 1 + 1 + 1 + 1 + 1]? = some (.cells #[.string ⟨#[108]⟩, .slice (some ⟨w.heap.size + 1 + 1 + 1 + 1 + 1, 0, none⟩) 1 1, .slice (some ⟨w.heap.size + 1 + 1 + 1 + 1 + 1 + 1 + 1, 0, none⟩) 2 2, .int .i64 0] 44) := by
    rw [hW]
    exact wext_new (by first | rfl | simp only [World.size_alloc])
  have hb : Below w.heap.size w W := by
    rw [hW]
    repeat (first | exact Below.refl _ _ | refine Below.alloc ?_ (by simp; try omega) _)
  obtain ⟨⟨t0, t1⟩, _⟩ := two_facts h0
  refine bodyPost_ret (v := .agg #[.slice (some ⟨w.heap.size + 1 + 1 + 1 + 1, 0, none⟩) 1 1, .slice (some ⟨w.heap.size + 1 + 1 + 1 + 1 + 1 + 1 + 1 + 1, 0, none⟩) 1 1]) (by simp [results, Tryz.results11, go_sem, t0, t1]) rfl ⟨⟨_, _, rfl, small_lit h1 h2 h3 h4 h5 h6 h7 h8⟩, hb⟩
set_option maxHeartbeats 4000000 in
theorem awake_any (w : World) (m : Int) (hm : w.cell? ⟨0, 0, none⟩ = some (.int .i64 m)) : Calls Tryz.prog 5 #[] w fun e w' => e = .returned (.bool true) ∧ Below w.heap.size w w' := by
  have HS := Lib.hid (small_any w)
  have h0 : 0 < w.heap.size := World.block_lt_of_cell? _ _ hm
  obtain ⟨S, hS⟩ : ∃ S, mkS exWS = S := ⟨_, rfl⟩
  have HT := Lib.hid (fun vs ww (ha : TxAt ww exW vs) hmm => WText_any exW vs ww ha (told_good exW_told).1 (told_good exW_told).2.1 (by rw [exW_written]; decide) m hmm)
  rw [exW_written, hS] at HT
  have e1 : (S.toList == [37, 116, 111, 107, 101, 110, 32, 60, 105, 110, 116, 62, 32, 78, 59, 10, 37, 37, 10, 108, 40, 88, 41, 58, 32, 88, 10, 9, 124, 32, 108, 40, 88, 41, 32, 78, 32, 37, 112, 114, 101, 99, 32, 78, 32, 123, 97, 125, 10, 9, 59, 10]) = true := by rw [← hS, Lib.toList_data, mkS_list]; rfl
  have HM := Lib.hid hm
  clear hm hS
  go_enter Tryz.func5, Tryz.ntmps5
  go_wp2_with fail
  refine HS.out.mono ?_
  rintro e w1 ⟨⟨g, h, rfl, hat⟩, hb1⟩
  have HB1 := Lib.hid hb1
  have HC := Lib.hid (HT.out _ w1 hat ((hb1.cell (p := ⟨0, 0, none⟩) h0).trans HM.out))
  clear hat hb1
  go_wp2_with fail
  refine HC.out.mono ?_
  rintro e w2 ⟨rfl, hb2⟩
  have HB2 : Hid (Below w.heap.size w w2) := HB1.out.trans (hb2.mono HB1.out.size)
  have HBAD := Lib.hid (WText_bad w2.heap.size (w2.alloc (.cells #[.string ⟨#[108, 101, 102, 116]⟩, .string ⟨#[]⟩, .slice none 0 0, .int .i64 0] 41)) (heap_alloc_new w2 _))
  clear hb2
  go_wp2_with fail
  refine HBAD.out.mono ?_
  rintro e w3 ⟨rfl, hb3⟩
  have HB3 : Hid (Below w.heap.size w w3) := (HB2.out.alloc HB2.out.size _).trans (hb3.mono (by rw [World.size_alloc]; have := HB2.out.size; omega))
  clear hb3
  go_wp2_with fail
  go_ret
  exact ⟨rfl, HB3.out⟩
end Go.Proofs.YtngimijiafnheaaGreat
set_option linter.unusedSimpArgs false
namespace LexT
open Go Go.RowKit
set_option linter.unusedVariables false
theorem long_text {s : Bs} (h : 65536 < s.length) : textT s = .error (3, 0) := by
  unfold textT tokensT
  rw [if_pos h]
  done
end LexT
namespace Go.Proofs.YtngimijiafnheaaGreat
open Go.Instr Go.RowKit LexT
set_option linter.unusedVariables false
set_option maxHeartbeats 16000000 in
theorem WriteRead_any (s : ByteArray) (w : World) (hm : s.size ≤ maxLen) (m : Int) (hc : w.cell? ⟨0, 0, none⟩ = some (.int .i64 m)) : Calls Tryz.prog 4 #[.string s] w fun e w' => e = .returned (.bool true) ∧ Below w.heap.size w w' := by
  have hls : s.data.toList.length = s.size := by simp
  have h0 : 0 < w.heap.size := World.block_lt_of_cell? _ _ hc
  have HAW := Lib.hid (awake_any w m hc)
  by_cases h1 : s.size ≤ 15000
  · have g1 : decide ((s.size : Int) > (15000 : Int)) = false := by simp; omega
    have g2 : ¬ ((15000 : Int) < (s.size : Int)) := by omega
    have HT := Lib.hid (fun ww => Text_any s ww hm)
    clear hm
    cases htx : textT s.data.toList with
    | error x =>
      obtain ⟨c, q⟩ := x
      rw [htx] at HT
      obtain ⟨hc0, hq⟩ := fault_in htx
      have n0 : ((c : Int) != 0) = true := by simp; omega
      clear htx hq hls hc
      go_enter Tryz.func4, Tryz.ntmps4
      go_wp2_with fail
      refine HAW.out.mono ?_
      rintro e w1 ⟨rfl, hb1⟩
      have HB1 := Lib.hid hb1
      clear hb1
      go_wp2_with fail
      refine (HT.out w1).mono ?_
      rintro e w2 (⟨x, S, xs, hR, _⟩ | ⟨c', q', hR, rfl, hb2⟩)
      · cases hR
      · injection hR with hR
        injection hR with hR1 hR2
        subst hR1 hR2
        have HB2 : Hid (Below w.heap.size w w2) := HB1.out.trans (hb2.mono HB1.out.size)
        clear hb2 HB1
        go_wp2_with fail
        go_ret
        exact ⟨rfl, (HB2.out.alloc HB2.out.size _).alloc (by simp; have := HB2.out.size; omega) _⟩
    | ok x =>
      have hwl := write_len htx
      have hgd := told_good htx
      have hsm := told_small htx
      have hrw : (txW x).length ≤ 65536 → ∃ x', textT (txW x) = .ok x' ∧ plT x' = plT x := fun h => read_write htx h
      rw [htx] at HT
      have HWT := Lib.hid (fun vs ww (ha : TxAt ww x vs) hmm => WText_any x vs ww ha hgd.1 hgd.2.1 (by omega) m hmm)
      have HC := Lib.hid hc
      have HRW := Lib.hid (And.intro hrw (And.intro hsm hwl))
      obtain ⟨O, hO⟩ : ∃ O, txW x = O := ⟨_, rfl⟩
      rw [hO] at HWT HRW
      obtain ⟨S0, hS0⟩ : ∃ S, mkS O = S := ⟨_, rfl⟩
      rw [hS0] at HWT
      have hSz : S0.size = O.length := by rw [← hS0]; exact mkS_size O
      have hSl : S0.data.toList = O := by rw [← hS0]; exact mkS_list O
      have HT2 := Lib.hid (fun ww => Text_any S0 ww (by have h9 := HRW.out.2.2; unfold maxLen; omega))
      rw [hSl] at HT2
      have HSZ := Lib.hid hSz
      clear htx hwl hgd hsm hrw hc hO hS0 hSl hls
      go_enter Tryz.func4, Tryz.ntmps4
      go_wp2_with fail
      refine HAW.out.mono ?_
      rintro e w1 ⟨rfl, hb1⟩
      have HB1 := Lib.hid hb1
      clear hb1
      go_wp2_with fail
      refine (HT.out w1).mono ?_
      rintro e w2 (⟨x', S, xs, hR, rfl, hat, hnd, hge, hb2⟩ | ⟨c', q', hR, rfl, hb2⟩)
      case inr => cases hR
      injection hR with hR
      subst hR
      obtain ⟨Sd, Sr, ao, n, c, bo, mm, d, rfl, rfl, hd, hr⟩ := text_open hat
      obtain ⟨⟨e0, e1⟩, hb3, hs3⟩ := alloc2 w2 (.cells #[.slice ao n c, .slice bo mm d] 25) (.cells #[.int .i64 0, .int .i64 0] 32)
      obtain ⟨W0, hW0⟩ : ∃ V, V = (w2.alloc (.cells #[.slice ao n c, .slice bo mm d] 25)).alloc (.cells #[.int .i64 0, .int .i64 0] 32) := ⟨_, rfl⟩
      rw [← hW0] at e0 e1 hb3 hs3
      have HW0 := Lib.hid hW0
      have HAT : Hid (AtL W0 (textC x) (Sd ++ Sr) [.slice ao n c, .slice bo mm d]) := hat.same _ _ _ (fun g hg => hb3.block g (AtL.lt _ _ _ hat g hg))
      have hbw := HB1.out.trans (hb2.mono HB1.out.size)
      have HBW0 : Hid (Below w.heap.size w W0 ∧ W0.heap.size = w2.heap.size + 2 ∧ w.heap.size ≤ w2.heap.size) := ⟨hbw.trans (hb3.mono hbw.size), hs3, hbw.size⟩
      obtain ⟨⟨k0, k1⟩, _⟩ := two_facts e0
      obtain ⟨⟨f0, f1⟩, _⟩ := two_facts e1
      have HE := Lib.hid (And.intro e0 e1)
      have HWR := Lib.hid (HWT.out _ W0 (tx_of x _ _ HAT.out) ((HBW0.out.1.cell (p := ⟨0, 0, none⟩) h0).trans HC.out))
      clear hat hnd hge hb2 hd hr hb3 hs3 hW0 e0 e1 hbw
      go_upto_region 6 with fail
      rw [← HW0.out]
      go_wp2_with fail
      refine HWR.out.mono ?_
      rintro e w3 ⟨rfl, hb3⟩
      have HB3 := Lib.hid hb3
      clear hb3 k0 k1 f0 f1
      go_wp2_with fail
      have HWB : Hid (Below w.heap.size w w3) := HBW0.out.1.trans (HB3.out.mono HBW0.out.1.size)
      by_cases hlong : 65536 < O.length
      · have gl : decide ((S0.size : Int) > (65536 : Int)) = true := by rw [HSZ.out]; simp; omega
        have gl2 : (65536 : Int) < (S0.size : Int) := by rw [HSZ.out]; omega
        rw [long_text hlong] at HT2
        clear hSz
        refine (HT2.out w3).mono ?_
        rintro e w4 (⟨x', S, xs, hR, _⟩ | ⟨c', q', hR, rfl, hb4⟩)
        · cases hR
        · have HB4 : Hid (Below w.heap.size w w4) := HWB.out.trans (hb4.mono HWB.out.size)
          clear hb4 hR
          go_wp2_with fail
          go_quiet (fail)
          go_wp2_with fail
          go_ret
          exact ⟨rfl, below_drn ((HB4.out.alloc HB4.out.size _).alloc (by simp; have := HB4.out.size; omega) _) _⟩
      · obtain ⟨x2, hx2, hpl⟩ := HRW.out.1 (by omega)
        have gl : decide ((S0.size : Int) > (65536 : Int)) = false := by rw [HSZ.out]; simp; omega
        have gl2 : ¬ ((65536 : Int) < (S0.size : Int)) := by rw [HSZ.out]; omega
        have hsm2 := told_small hx2
        rw [hx2] at HT2
        have HPL := Lib.hid (And.intro hpl hsm2)
        clear hSz hpl hsm2 hx2
        refine (HT2.out w3).mono ?_
        rintro e w4 (⟨x', S', xs', hR, rfl, hat, hnd, hge, hb4⟩ | ⟨c', q', hR, rfl, hb4⟩)
        case inr => cases hR
        injection hR with hR
        subst hR
        obtain ⟨Sd', Sr', ao', n', c', bo', m', d', rfl, rfl, hd', hr'⟩ := text_open hat
        obtain ⟨⟨e0, e1⟩, hb5, hs5⟩ := alloc2 w4 (.cells #[.slice ao' n' c', .slice bo' m' d'] 25) (.cells #[.int .i64 0, .int .i64 0] 32)
        obtain ⟨W7, hW7⟩ : ∃ V, V = (w4.alloc (.cells #[.slice ao' n' c', .slice bo' m' d'] 25)).alloc (.cells #[.int .i64 0, .int .i64 0] 32) := ⟨_, rfl⟩
        rw [← hW7] at e0 e1 hb5 hs5
        have HW7 := Lib.hid hW7
        have hbw : Below W0.heap.size W0 W7 := (HB3.out.trans (hb4.mono HB3.out.size)).trans (hb5.mono (by have := HB3.out.size; have := hb4.size; omega))
        have HPT : Hid (∀ ww, Below W7.heap.size W7 ww → Calls Tryz.prog 10 #[.agg #[.slice ao n c, .slice bo mm d]] ww (CopP (textC (plT x)) ww)) := fun ww hb => plain_of x HRW.out.2.1 (Sd ++ Sr) [.slice ao n c, .slice bo mm d] ww (HAT.out.same _ _ _ (fun g hg => (hb.block g (by have := AtL.lt _ _ _ HAT.out g hg; have := hbw.size; omega)).trans (hbw.block g (AtL.lt _ _ _ HAT.out g hg))))
        have HPU : Hid (∀ ww, Below W7.heap.size W7 ww → Calls Tryz.prog 10 #[.agg #[.slice ao' n' c', .slice bo' m' d']] ww (CopP (textC (plT x)) ww)) := fun ww hb => by
          rw [← HPL.out.1]
          exact plain_of x2 HPL.out.2 (Sd' ++ Sr') [.slice ao' n' c', .slice bo' m' d'] ww (hat.same _ _ _ (fun g hg => (hb.block g (by have := AtL.lt _ _ _ hat g hg; omega)).trans (hb5.block g (AtL.lt _ _ _ hat g hg))))
        have HBW : Hid (Below w.heap.size w W7 ∧ w.heap.size ≤ W7.heap.size) := ⟨HBW0.out.1.trans (hbw.mono HBW0.out.1.size), by have := hbw.size; have := HBW0.out.1.size; omega⟩
        obtain ⟨⟨k0, k1⟩, _⟩ := two_facts ((hbw.block w2.heap.size (by have := HBW0.out.2.1; omega)).trans HE.out.1)
        obtain ⟨⟨l0, l1⟩, _⟩ := two_facts e0
        obtain ⟨⟨f0, f1⟩, _⟩ := two_facts e1
        have HCL : Hid (∀ ww, Below W7.heap.size W7 ww → (ww.cell? ⟨w2.heap.size, 0, none⟩ = some (.slice ao n c) ∧ ww.cell? ⟨w2.heap.size, 1, none⟩ = some (.slice bo mm d)) ∧ (ww.cell? ⟨w4.heap.size, 0, none⟩ = some (.slice ao' n' c') ∧ ww.cell? ⟨w4.heap.size, 1, none⟩ = some (.slice bo' m' d'))) := fun ww hb => ⟨⟨(hb.cell (p := ⟨w2.heap.size, 0, none⟩) (World.block_lt_of_cell? _ _ k0)).trans k0, (hb.cell (p := ⟨w2.heap.size, 1, none⟩) (World.block_lt_of_cell? _ _ k1)).trans k1⟩, (hb.cell (p := ⟨w4.heap.size, 0, none⟩) (World.block_lt_of_cell? _ _ l0)).trans l0, (hb.cell (p := ⟨w4.heap.size, 1, none⟩) (World.block_lt_of_cell? _ _ l1)).trans l1⟩
        clear hat hnd hge hb4 hd' hr' e0 e1 hb5 hs5 hW7 hbw
        go_upto_region 12 with fail
        rw [← HW7.out]
        go_wp2_with fail
        clear HT HT2 HC HWR HRW HPL HSZ HAT HE HB1 HB3 HW0 HW7 HAW HWT HBW0 HWB g1 g2 h1
        have B0 : Below W7.heap.size W7 W7.drew := (Below.refl _ _).drew
        go_region_law (
          (go_simp
           first
            | (go_at_call 9
               refine (SameSource_one (plT x) ST SU vyT vyU wU (hatT.same _ _ _ (fun g hg => hbU.block g (AtL.lt _ _ _ hatT g hg))) hatU).mono ?_
               rintro e w9 ⟨rfl, hb9⟩)
            | (go_at_call 10
               refine (HPU.out _ BT).mono ?_
               rintro e wU ⟨vyU, SU, rfl, hatU, hndU, hgeU, hbU⟩
               have BU : Below W7.heap.size W7 wU := BT.trans (hbU.mono BT.size))
            | (go_at_call 10
               refine (HPT.out _ B0).mono ?_
               rintro e wT ⟨vyT, ST, rfl, hatT, hndT, hgeT, hbT⟩
               have BT : Below W7.heap.size W7 wT := B0.trans (hbT.mono (Nat.le_refl _))
               obtain ⟨⟨p0, p1⟩, p2, p3⟩ := HCL.out _ BT)))
        all_goals
          go_wp2_with fail
          go_ret
          exact ⟨rfl, HBW.out.1.trans ((BU.trans (hb9.mono BU.size)).mono HBW.out.2)⟩
  · have g1 : decide ((s.size : Int) > (15000 : Int)) = true := by simp; omega
    have g2 : (15000 : Int) < (s.size : Int) := by omega
    clear hm hls hc
    go_enter Tryz.func4, Tryz.ntmps4
    go_wp2_with fail
    refine HAW.out.mono ?_
    rintro e w1 ⟨rfl, hb1⟩
    have HB1 := Lib.hid hb1
    clear hb1
    go_wp2_with fail
    go_ret
    exact ⟨rfl, HB1.out⟩
end Go.Proofs.YtngimijiafnheaaGreat
