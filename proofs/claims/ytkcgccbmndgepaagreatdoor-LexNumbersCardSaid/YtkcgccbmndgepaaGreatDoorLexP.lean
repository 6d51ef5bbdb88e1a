/- Tokens in memory; the law's fault, awake. -/
import Derived.Test.YtkcgccbmndgepaaGreatDoorLexO
import Derived.Deep.CutRange
import Derived.Laws.StructEq
set_option maxRecDepth 100000
namespace LexT
open Go Go.RowKit
set_option linter.unusedVariables false
/-- Tokens that lie in memory. -/
structure ToksAt (w : World) (ao : Option Addr) (c : Nat) (ts : List Tok) : Prop where
  len : ts.length ≤ c
  cap : c ≤ maxLen
  at_ : ∀ (i : Nat) (t : Tok), ts[i]? = some t → ∃ g, ao = some ⟨g, 0, none⟩ ∧ g < w.heap.size ∧ w.cell? ⟨g, i * 3, none⟩ = some (.int .u8 (t.kind : Int)) ∧ w.cell? ⟨g, i * 3 + 1, none⟩ = some (.string (mkS t.text)) ∧ w.cell? ⟨g, i * 3 + 2, none⟩ = some (.int .i64 (t.place : Int))
theorem ToksAt.under {w w' : World} {ao : Option Addr} {c : Nat} {ts : List Tok} (h : ToksAt w ao c ts) (hb : Below w.heap.size w w') : ToksAt w' ao c ts := by
  refine ⟨h.len, h.cap, fun i t hi => ?_⟩
  obtain ⟨g, h1, h2, h3, h4, h5⟩ := h.at_ i t hi
  exact ⟨g, h1, Nat.lt_of_lt_of_le h2 hb.size, (hb.cell (p := ⟨g, i * 3, none⟩) h2).trans h3, (hb.cell (p := ⟨g, i * 3 + 1, none⟩) h2).trans h4, (hb.cell (p := ⟨g, i * 3 + 2, none⟩) h2).trans h5⟩
theorem toks_of_own {w : World} {base : Nat} {e : TypeId} {v : Value} {ts : List Tok} (h : w.ownsRow base e 3 v ts.length (tcells ts)) : ∃ ao c, v = .slice ao ts.length c ∧ ToksAt w ao c ts := by
  rcases h.2 with ⟨hv, h0⟩ | ⟨g, cap, cur, hv, hb, hg, hnc, hcm, _⟩
  · have : ts = [] := List.eq_nil_of_length_eq_zero h0
    subst this
    exact ⟨none, 0, hv, by simp, by simp [maxLen], by simp⟩
  · subst hv
    refine ⟨_, _, rfl, hnc, hcm, fun i t hi => ⟨g, rfl, (Array.getElem?_eq_some_iff.1 hg).1, ?_⟩⟩
    have key : ∀ (j : Nat) (u : Value), (tcs t)[j]? = some u → w.cell? ⟨g, i * 3 + j, none⟩ = some u := by
      intro j u hj
      have := h.cells (g := g) rfl (i * 3 + j) u (tcells_at ts i j t u hi hj)
      have hadd : (⟨g, 0, none⟩ : Addr).add (i * 3 + j) = ⟨g, i * 3 + j, none⟩ := by unfold Addr.add; split <;> simp_all
      rw [hadd] at this
      exact this
    exact ⟨by simpa using key 0 _ rfl, key 1 _ rfl, key 2 _ rfl⟩
theorem toks_new (w : World) (T : TypeId) (ts : List Tok) (hl : ts.length ≤ 1000) : ToksAt (w.alloc (.cells (tcells ts).toArray T)) (some ⟨w.heap.size, 0, none⟩) ts.length ts := by
  refine ⟨Nat.le_refl _, by unfold maxLen; omega, fun i t hi => ⟨w.heap.size, rfl, by simp, ?_⟩⟩
  have key : ∀ (j : Nat) (u : Value), (tcs t)[j]? = some u → (w.alloc (.cells (tcells ts).toArray T)).cell? ⟨w.heap.size, i * 3 + j, none⟩ = some u := by
    intro j u hj
    rw [World.cell?_alloc_new]
    simpa using tcells_at ts i j t u hi hj
  exact ⟨by simpa using key 0 _ rfl, key 1 _ rfl, key 2 _ rfl⟩
theorem mkS_append (a b : Bs) : mkS a ++ mkS b = mkS (a ++ b) := by
  apply ByteArray.ext
  simp [mkS, ByteArray.data_append]
def exT : Bs := [37, 116, 111, 107, 101, 110, 32, 60, 105, 110, 116, 62, 32, 78, 59, 32, 37, 37, 32, 101, 58, 32, 78, 32, 123, 32, 102, 40, 34, 125, 34, 41, 32, 47, 47, 32, 125, 10, 125]
def exToks : List Tok := [⟨1, [116, 111, 107, 101, 110], 0⟩, ⟨6, [60], 7⟩, ⟨2, [105, 110, 116], 8⟩, ⟨6, [62], 11⟩, ⟨2, [78], 13⟩, ⟨6, [59], 14⟩, ⟨6, [37, 37], 16⟩, ⟨2, [101], 19⟩, ⟨6, [58], 20⟩, ⟨2, [78], 22⟩, ⟨9, [32, 102, 40, 34, 125, 34, 41, 32, 47, 47, 32, 125, 10], 24⟩, ⟨7, [], 39⟩]
set_option maxRecDepth 100000 in
theorem ex_ok : tokensT exT = .ok exToks := by rfl
theorem ex_cells : (tcells exToks).toArray = #[.int .u8 1, .string ⟨#[116, 111, 107, 101, 110]⟩, .int .i64 0, .int .u8 6, .string ⟨#[60]⟩, .int .i64 7, .int .u8 2, .string ⟨#[105, 110, 116]⟩, .int .i64 8, .int .u8 6, .string ⟨#[62]⟩, .int .i64 11, .int .u8 2, .string ⟨#[78]⟩, .int .i64 13, .int .u8 6, .string ⟨#[59]⟩, .int .i64 14, .int .u8 6, .string ⟨#[37, 37]⟩, .int .i64 16, .int .u8 2, .string ⟨#[101]⟩, .int .i64 19, .int .u8 6, .string ⟨#[58]⟩, .int .i64 20, .int .u8 2, .string ⟨#[78]⟩, .int .i64 22, .int .u8 9, .string ⟨#[32, 102, 40, 34, 125, 34, 41, 32, 47, 47, 32, 125, 10]⟩, .int .i64 24, .int .u8 7, .string ⟨#[]⟩, .int .i64 39] := by rfl
set_option maxRecDepth 100000 in
theorem bad_0 : tokensT [37, 102, 111, 111] = .error (101, 0) := by rfl
set_option maxRecDepth 100000 in
theorem bad_1 : tokensT [101, 32, 123, 32] = .error (101, 2) := by rfl
set_option maxRecDepth 100000 in
theorem bad_2 : tokensT [101, 32, 61, 32] = .error (100, 2) := by rfl
end LexT
namespace Go.Proofs.YtkcgccbmndgepaaGreatDoor
open Go.Instr Go.RowKit LexT
set_option linter.unusedVariables false
set_option linter.unusedSimpArgs false
theorem neqTok (k q : Int) (t : ByteArray) (w : World) : (binOp .neq 57 (.agg #[.int .u8 k, .string t, .int .i64 q]) (.agg #[.int .u8 k, .string t, .int .i64 q])).run Tryz.prog w = .ok (.bool false) w := by simp [go_sem]
theorem neqgTok (k q : Int) (t : ByteArray) (x y : Operand) (w : World) : (eqGuard .neq 57 x y (.agg #[.int .u8 k, .string t, .int .i64 q]) (.agg #[.int .u8 k, .string t, .int .i64 q])).run Tryz.prog w = .ok () w := by simp [go_sem]
set_option maxHeartbeats 4000000 in
theorem SameTokens_any (ts : List Tok) (a b : Option Addr) (ca cb : Nat) (w : World) (hl : ts.length < 1000000) (ha : ToksAt w a ca ts) (hb : ToksAt w b cb ts) :
    Calls Tryz.prog 11 #[.slice a ts.length ca, .slice b ts.length cb] w fun e w' => e = .returned (.bool true) ∧ Below w.heap.size w w' := by
  have HA := Lib.hid ha
  have HB := Lib.hid hb
  clear ha hb
  go_enter Tryz.func11, Tryz.ntmps11
  go_wp2_with fail
  go_loopg [5] ts.length (fun gg v wr => ∃ k : Nat, k ≤ ts.length ∧ gg = ts.length - k ∧ v = .int .i64 k ∧ Below w.heap.size w wr)
  case atStart => exact ⟨0, by omega, rfl, rfl, Below.refl _ _⟩
  case round =>
    obtain ⟨k, hk, hgk, rfl, hbl⟩ := hrel
    have HGK := Lib.hid hgk
    have HBL := Lib.hid hbl
    clear hgk hbl
    by_cases hlt : k < ts.length
    · have t1 : decide ((k : Int) < (ts.length : Int)) = true := decide_eq_true (by omega)
      obtain ⟨t, ht⟩ : ∃ t, ts[k]? = some t := ⟨_, List.getElem?_eq_getElem hlt⟩
      obtain ⟨g1, rfl, _, c0, c1, c2⟩ := (HA.out.under HBL.out).at_ k t ht
      obtain ⟨g2, rfl, _, d0, d1, d2⟩ := (HB.out.under HBL.out).at_ k t ht
      have k0 : (0 : Int) ≤ (k : Int) := by omega
      have k1 : (k : Int) < (ts.length : Int) := by omega
      clear ht
      have EQ := fun n => neqTok (t.kind : Int) (t.place : Int) (mkS t.text) (wr.drewN n)
      have EG := fun n x y => neqgTok (t.kind : Int) (t.place : Int) (mkS t.text) x y (wr.drewN n)
      go_upto_region 6 with fail
      go_quiet (fail)
      go_wp2_with fail
      go_roundg (ts.length - (k + 1))
      case rel => exact ⟨k + 1, by omega, rfl, by go_num, HBL.out.trans ⟨rfl, rfl, rfl, Nat.le_refl _, fun _ _ => rfl⟩⟩
      case measure => rw [HGK.out]; omega
    · have t1 : decide ((k : Int) < (ts.length : Int)) = false := decide_eq_false (by omega)
      go_wp2_with fail
      go_ret
      exact ⟨rfl, HBL.out⟩
set_option maxHeartbeats 1000000 in
theorem fault_any (s : ByteArray) (w : World) (hm : s.size ≤ maxLen) (c q : Nat) (hts : tokensT s.data.toList = .error (c, q)) :
    Calls Tryz.prog 22 #[.string s, .int .i64 (c : Int), .int .i64 (q : Int)] w fun e w' => e = .returned (.bool true) ∧ Below w.heap.size w w' := by
  have HT := Lib.hid (Tokens_any s w hm)
  have HTS := Lib.hid hts
  clear hm hts
  go_enter Tryz.func22, Tryz.ntmps22
  go_wp2_with fail
  refine HT.out.mono ?_
  rintro e w1 (⟨out, tv, hR, rfl, hown, hout, hb⟩ | ⟨c', q', hR, rfl, hb⟩)
  · exact absurd (hR.symm.trans HTS.out) (by simp)
  · have he := hR.symm.trans HTS.out
    injection he with he
    injection he with he1 he2
    subst he1 he2
    have HB := Lib.hid hb
    clear hR hb
    go_wp2_with fail
    go_ret
    exact ⟨rfl, (HB.out).alloc HB.out.size _⟩
theorem fault_0 (w : World) : Calls Tryz.prog 22 #[.string ⟨#[37, 102, 111, 111]⟩, .int .i64 101, .int .i64 0] w fun e w' => e = .returned (.bool true) ∧ Below w.heap.size w w' := fault_any ⟨#[37, 102, 111, 111]⟩ w (by decide) 101 0 bad_0
theorem fault_1 (w : World) : Calls Tryz.prog 22 #[.string ⟨#[101, 32, 123, 32]⟩, .int .i64 101, .int .i64 2] w fun e w' => e = .returned (.bool true) ∧ Below w.heap.size w w' := fault_any ⟨#[101, 32, 123, 32]⟩ w (by decide) 101 2 bad_1
theorem fault_2 (w : World) : Calls Tryz.prog 22 #[.string ⟨#[101, 32, 61, 32]⟩, .int .i64 100, .int .i64 2] w fun e w' => e = .returned (.bool true) ∧ Below w.heap.size w w' := fault_any ⟨#[101, 32, 61, 32]⟩ w (by decide) 100 2 bad_2
theorem Tokens_ex (w : World) : Calls Tryz.prog 9 #[.string ⟨#[37, 116, 111, 107, 101, 110, 32, 60, 105, 110, 116, 62, 32, 78, 59, 32, 37, 37, 32, 101, 58, 32, 78, 32, 123, 32, 102, 40, 34, 125, 34, 41, 32, 47, 47, 32, 125, 10, 125]⟩] w fun e w' => ∃ ao c, e = .returned (.tuple #[.slice ao 12 c, .agg #[.int .i64 0, .int .i64 0]]) ∧ ToksAt w' ao c exToks ∧ Below w.heap.size w w' := by
  refine (Tokens_any ⟨#[37, 116, 111, 107, 101, 110, 32, 60, 105, 110, 116, 62, 32, 78, 59, 32, 37, 37, 32, 101, 58, 32, 78, 32, 123, 32, 102, 40, 34, 125, 34, 41, 32, 47, 47, 32, 125, 10, 125]⟩ w (by decide)).mono ?_
  rintro e w1 (⟨out, tv, hR, rfl, hown, hout, hb⟩ | ⟨c', q', hR, rfl, hb⟩)
  · obtain rfl : exToks = out := by have := ex_ok.symm.trans hR; injection this
    obtain ⟨ao, c, rfl, hk⟩ := toks_of_own hown
    exact ⟨ao, c, rfl, hk, hb⟩
  · exact absurd (ex_ok.symm.trans hR) (by simp)
set_option maxHeartbeats 2000000 in
theorem awake_any (w : World) : Calls Tryz.prog 8 #[] w fun e w' => e = .returned (.bool true) ∧ Below w.heap.size w w' := by
  go_enter Tryz.func8, Tryz.ntmps8
  go_wp2_with fail
  refine (Tokens_ex w).mono ?_
  rintro e w1 ⟨ao, c, rfl, hk, hb⟩
  have hcl := hk.len
  have hcc := hk.cap
  unfold maxLen at hcc
  have hcl' : 12 ≤ c := hcl
  have HK := Lib.hid hk
  have HB := Lib.hid hb
  clear hk hb hcl
  have HS : Hid (∀ w2, Below w1.heap.size w1 w2 → Calls Tryz.prog 11 #[.slice ao 12 c, .slice (some ⟨w2.heap.size, 0, none⟩) 12 12] (w2.alloc (.cells (tcells exToks).toArray 57)) fun e w' => e = .returned (.bool true) ∧ Below (w2.alloc (.cells (tcells exToks).toArray 57)).heap.size (w2.alloc (.cells (tcells exToks).toArray 57)) w') := fun w2 h2 =>
    SameTokens_any exToks ao (some ⟨w2.heap.size, 0, none⟩) c 12 _ (by decide) ((HK.out.under h2).under ((Below.refl _ _).alloc (Nat.le_refl _) _)) (toks_new w2 57 exToks (by decide))
  have HS2 := Lib.hid (HS.out (w1.alloc (.cells #[.int .i64 0, .int .i64 0] 32)) ((Below.refl _ _).alloc (Nat.le_refl _) _))
  have HBB : Hid (Below w.heap.size w ((w1.alloc (.cells #[.int .i64 0, .int .i64 0] 32)).alloc (.cells (tcells exToks).toArray 57))) := (HB.out.alloc HB.out.size _).alloc (by have := HB.out.size; simp; omega) _
  have hz : (w1.alloc (.cells #[.int .i64 0, .int .i64 0] 32)).heap.size = w1.heap.size + 1 := by simp
  rw [ex_cells] at HS2 HBB
  rw [hz] at HS2
  clear hz
  clear HS
  go_wp2_with fail
  refine HS2.out.mono ?_
  rintro e w2 ⟨rfl, hb2⟩
  have HB2 : Hid (Below w.heap.size w w2) := HBB.out.trans (hb2.mono HBB.out.size)
  clear hb2
  go_wp2_with fail
  refine (fault_0 w2).mono ?_
  rintro e w3 ⟨rfl, hb3⟩
  have HB3 : Hid (Below w.heap.size w w3) := HB2.out.trans (hb3.mono HB2.out.size)
  clear hb3
  go_wp2_with fail
  refine (fault_1 w3).mono ?_
  rintro e w4 ⟨rfl, hb4⟩
  have HB4 : Hid (Below w.heap.size w w4) := HB3.out.trans (hb4.mono HB3.out.size)
  clear hb4
  go_wp2_with fail
  refine (fault_2 w4).mono ?_
  rintro e w5 ⟨rfl, hb5⟩
  have HB5 : Hid (Below w.heap.size w w5) := HB4.out.trans (hb5.mono HB4.out.size)
  clear hb5
  go_wp2_with fail
  go_ret
  exact ⟨rfl, HB5.out⟩
end Go.Proofs.YtkcgccbmndgepaaGreatDoor
