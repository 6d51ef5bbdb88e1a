import Derived.Test.YtldedhfbpongmaaDoorNodAc
set_option maxRecDepth 100000
namespace Go.Proofs.YtldedhfbpongmaaDoor
open Go.Instr Go.RowKit NodT
set_option linter.unusedVariables false
set_option linter.unusedSimpArgs false
set_option maxHeartbeats 1000000 in
theorem take_21 (t : Nd) (d : Int) (bl B : Nat) (A : Option Addr) (c : Nat) (K : List Nd) (w : World) (hkind : t.kind = 21) (hlb : LookBox w bl t d A K.length c) (hin : InL w B A c K) (hBb : B ≤ bl) :
    Calls Tryd.prog 39 #[.pointer (some ⟨bl, 0, none⟩)] w (TakePost (some K) t d bl B w) := by
  generalize hr : (some K) = r
  have HR := Lib.hid hr
  clear hr
  have HLB0 := Lib.hid hlb
  have HIN0 := Lib.hid hin
  obtain ⟨c0_0, _, c2_0, _, c4_0, _, _⟩ := hlb
  rw [hkind] at c0_0
  replace c0_0 : w.cell? ⟨bl, 0, none⟩ = some (.int .u8 21) := c0_0
  clear hin hkind
  go_enter Tryd.func39, Tryd.ntmps39
  go_wp2_with fail
  go_end0
  have hfin : r = some K := HR.out.symm
  rw [hfin]
  exact (show TakePost (some K) t d bl B w _ _ from ⟨rfl, ⟨rfl, rfl, rfl, Nat.le_refl _, fun _ _ _ => rfl⟩, _, _, HLB0.out, HIN0.out⟩)
set_option maxHeartbeats 1000000 in
theorem take_22 (t : Nd) (d : Int) (bl B : Nat) (A : Option Addr) (c : Nat) (K : List Nd) (w : World) (hkind : t.kind = 22) (hlb : LookBox w bl t d A K.length c) (hin : InL w B A c K) (hBb : B ≤ bl) :
    Calls Tryd.prog 39 #[.pointer (some ⟨bl, 0, none⟩)] w (TakePost (some K) t d bl B w) := by
  generalize hr : (some K) = r
  have HR := Lib.hid hr
  clear hr
  have HLB0 := Lib.hid hlb
  have HIN0 := Lib.hid hin
  obtain ⟨c0_0, _, c2_0, _, c4_0, _, _⟩ := hlb
  rw [hkind] at c0_0
  replace c0_0 : w.cell? ⟨bl, 0, none⟩ = some (.int .u8 22) := c0_0
  clear hin hkind
  go_enter Tryd.func39, Tryd.ntmps39
  go_wp2_with fail
  go_end0
  have hfin : r = some K := HR.out.symm
  rw [hfin]
  exact (show TakePost (some K) t d bl B w _ _ from ⟨rfl, ⟨rfl, rfl, rfl, Nat.le_refl _, fun _ _ _ => rfl⟩, _, _, HLB0.out, HIN0.out⟩)
set_option maxHeartbeats 1000000 in
theorem take_23 (t : Nd) (d : Int) (bl B : Nat) (A : Option Addr) (c : Nat) (K : List Nd) (w : World) (hkind : t.kind = 23) (hlb : LookBox w bl t d A K.length c) (hin : InL w B A c K) (hBb : B ≤ bl) :
    Calls Tryd.prog 39 #[.pointer (some ⟨bl, 0, none⟩)] w (TakePost (some K) t d bl B w) := by
  generalize hr : (some K) = r
  have HR := Lib.hid hr
  clear hr
  have HLB0 := Lib.hid hlb
  have HIN0 := Lib.hid hin
  obtain ⟨c0_0, _, c2_0, _, c4_0, _, _⟩ := hlb
  rw [hkind] at c0_0
  replace c0_0 : w.cell? ⟨bl, 0, none⟩ = some (.int .u8 23) := c0_0
  clear hin hkind
  go_enter Tryd.func39, Tryd.ntmps39
  go_wp2_with fail
  go_end0
  have hfin : r = some K := HR.out.symm
  rw [hfin]
  exact (show TakePost (some K) t d bl B w _ _ from ⟨rfl, ⟨rfl, rfl, rfl, Nat.le_refl _, fun _ _ _ => rfl⟩, _, _, HLB0.out, HIN0.out⟩)
set_option maxHeartbeats 1000000 in
theorem take_24 (t : Nd) (d : Int) (bl B : Nat) (A : Option Addr) (c : Nat) (K : List Nd) (w : World) (hkind : t.kind = 24) (hlb : LookBox w bl t d A K.length c) (hin : InL w B A c K) (hBb : B ≤ bl) :
    Calls Tryd.prog 39 #[.pointer (some ⟨bl, 0, none⟩)] w (TakePost (some K) t d bl B w) := by
  generalize hr : (some K) = r
  have HR := Lib.hid hr
  clear hr
  have HLB0 := Lib.hid hlb
  have HIN0 := Lib.hid hin
  obtain ⟨c0_0, _, c2_0, _, c4_0, _, _⟩ := hlb
  rw [hkind] at c0_0
  replace c0_0 : w.cell? ⟨bl, 0, none⟩ = some (.int .u8 24) := c0_0
  clear hin hkind
  go_enter Tryd.func39, Tryd.ntmps39
  go_wp2_with fail
  go_end0
  have hfin : r = some K := HR.out.symm
  rw [hfin]
  exact (show TakePost (some K) t d bl B w _ _ from ⟨rfl, ⟨rfl, rfl, rfl, Nat.le_refl _, fun _ _ _ => rfl⟩, _, _, HLB0.out, HIN0.out⟩)
set_option maxHeartbeats 1000000 in
theorem take_25 (t : Nd) (d : Int) (bl B : Nat) (A : Option Addr) (c : Nat) (K : List Nd) (w : World) (hkind : t.kind = 25) (hlb : LookBox w bl t d A K.length c) (hin : InL w B A c K) (hBb : B ≤ bl) :
    Calls Tryd.prog 39 #[.pointer (some ⟨bl, 0, none⟩)] w (TakePost (some K) t d bl B w) := by
  generalize hr : (some K) = r
  have HR := Lib.hid hr
  clear hr
  have HLB0 := Lib.hid hlb
  have HIN0 := Lib.hid hin
  obtain ⟨c0_0, _, c2_0, _, c4_0, _, _⟩ := hlb
  rw [hkind] at c0_0
  replace c0_0 : w.cell? ⟨bl, 0, none⟩ = some (.int .u8 25) := c0_0
  clear hin hkind
  go_enter Tryd.func39, Tryd.ntmps39
  go_wp2_with fail
  go_end0
  have hfin : r = some K := HR.out.symm
  rw [hfin]
  exact (show TakePost (some K) t d bl B w _ _ from ⟨rfl, ⟨rfl, rfl, rfl, Nat.le_refl _, fun _ _ _ => rfl⟩, _, _, HLB0.out, HIN0.out⟩)
set_option maxHeartbeats 1000000 in
theorem take_26 (t : Nd) (d : Int) (bl B : Nat) (A : Option Addr) (c : Nat) (K : List Nd) (w : World) (hkind : t.kind = 26) (hlb : LookBox w bl t d A K.length c) (hin : InL w B A c K) (hBb : B ≤ bl) :
    Calls Tryd.prog 39 #[.pointer (some ⟨bl, 0, none⟩)] w (TakePost (stepQ [isK [21, 22, 23, 24, 25, 26, 27, 28, 29, 30, 31, 32, 33, 35]] K) t d bl B w) := by
  generalize hr : (stepQ [isK [21, 22, 23, 24, 25, 26, 27, 28, 29, 30, 31, 32, 33, 35]] K) = r
  have HR := Lib.hid hr
  clear hr
  have hc0 : Calls Tryd.prog 48 #[.pointer (some ⟨bl, 0, none⟩), .slice (some ⟨w.heap.size + 1 + 1, 0, none⟩) 1 1] ((((w).alloc (.cells #[.int .u8 21, .int .u8 22, .int .u8 23, .int .u8 24, .int .u8 25, .int .u8 26, .int .u8 27, .int .u8 28, .int .u8 29, .int .u8 30, .int .u8 31, .int .u8 32, .int .u8 33, .int .u8 35] 22)).alloc (.cells #[.slice (some ⟨w.heap.size, 0, none⟩) 14 14] 53)).alloc (.cells #[.func (.func 30) #[] #[.pointer (some ⟨w.heap.size + 1, 0, none⟩)]] 48)) (TakePost (stepQ [isK [21, 22, 23, 24, 25, 26, 27, 28, 29, 30, 31, 32, 33, 35]] K) t d bl B w) := next_lit1 t d bl B A c K w hlb hin hBb [21, 22, 23, 24, 25, 26, 27, 28, 29, 30, 31, 32, 33, 35] (by decide) (by decide)
  have HC0 := Lib.hid hc0
  have HLB0 := Lib.hid hlb
  have HIN0 := Lib.hid hin
  have hle0 := hin.len
  have hca0 := hin.cap
  unfold maxLen at hca0
  obtain ⟨c0_0, _, c2_0, _, c4_0, _, _⟩ := hlb
  rw [hkind] at c0_0
  replace c0_0 : w.cell? ⟨bl, 0, none⟩ = some (.int .u8 26) := c0_0
  clear hkind
  clear hc0 hin
  cases hs0 : stepQ [isK [21, 22, 23, 24, 25, 26, 27, 28, 29, 30, 31, 32, 33, 35]] K with
  | none =>
    have HS0 := Lib.hid hs0
    have hn0 := HC0.out
    rw [hs0] at hn0
    have HN0 := Lib.hid hn0
    clear hs0 hn0 HC0
    go_enter Tryd.func39, Tryd.ntmps39
    go_wp2_with (first | (go_at_call 49; refine (types_any _).mono ?_; rintro e w' ⟨rfl, rfl⟩) | (go_at_call 54; refine (blocks_any _).mono ?_; rintro e w' ⟨rfl, rfl⟩) | (go_at_call 52; refine (calls_any _).mono ?_; rintro e w' ⟨rfl, rfl⟩) | (go_at_call 36; refine (statements_any _).mono ?_; rintro e w' ⟨rfl, rfl⟩) | (go_at_call 38; refine (expressions_any _).mono ?_; rintro e w' ⟨rfl, rfl⟩) | (go_at_call 24; refine (of_any _ _ _ _ _).mono ?_; rintro e w' ⟨rfl, rfl⟩))
    refine HN0.out.mono ?_
    rintro e w1 ⟨rfl, hg0⟩
    have HG1 := Lib.hid hg0
    clear hg0
    go_wp2_with fail
    refine ⟨rfl, ?_⟩
    have hfin : r = none := by rw [← HR.out]; simp only [Option.bind_some, Option.bind_none, HS0.out]
    rw [hfin]
    exact ⟨rfl, HG1.out⟩
  | some K1 =>
    have HS0 := Lib.hid hs0
    have hn0 := HC0.out
    rw [hs0] at hn0
    have HN0 := Lib.hid hn0
    clear hs0 hn0 HC0
    go_enter Tryd.func39, Tryd.ntmps39
    go_wp2_with (first | (go_at_call 49; refine (types_any _).mono ?_; rintro e w' ⟨rfl, rfl⟩) | (go_at_call 54; refine (blocks_any _).mono ?_; rintro e w' ⟨rfl, rfl⟩) | (go_at_call 52; refine (calls_any _).mono ?_; rintro e w' ⟨rfl, rfl⟩) | (go_at_call 36; refine (statements_any _).mono ?_; rintro e w' ⟨rfl, rfl⟩) | (go_at_call 38; refine (expressions_any _).mono ?_; rintro e w' ⟨rfl, rfl⟩) | (go_at_call 24; refine (of_any _ _ _ _ _).mono ?_; rintro e w' ⟨rfl, rfl⟩))
    refine HN0.out.mono ?_
    rintro e w1 ⟨rfl, hg0, A1, c1, hl1, hi1⟩
    have HG1 := Lib.hid hg0
    clear hg0
    have HLB1 := Lib.hid hl1
    have HIN1 := Lib.hid hi1
    clear hl1 hi1
    go_wp2_with fail
    go_end0
    have hfin : r = some K1 := by rw [← HR.out]; simp only [Option.bind_some, HS0.out]
    rw [hfin]
    exact ⟨rfl, HG1.out, _, _, HLB1.out, HIN1.out⟩
set_option maxHeartbeats 1000000 in
theorem take_27 (t : Nd) (d : Int) (bl B : Nat) (A : Option Addr) (c : Nat) (K : List Nd) (w : World) (hkind : t.kind = 27) (hlb : LookBox w bl t d A K.length c) (hin : InL w B A c K) (hBb : B ≤ bl) :
    Calls Tryd.prog 39 #[.pointer (some ⟨bl, 0, none⟩)] w (TakePost (stepQ [isK [21, 22, 23, 24, 25, 26, 27, 28, 29, 30, 31, 32, 33, 35], isK [21, 22, 23, 24, 25, 26, 27, 28, 29, 30, 31, 32, 33, 35]] K) t d bl B w) := by
  generalize hr : (stepQ [isK [21, 22, 23, 24, 25, 26, 27, 28, 29, 30, 31, 32, 33, 35], isK [21, 22, 23, 24, 25, 26, 27, 28, 29, 30, 31, 32, 33, 35]] K) = r
  have HR := Lib.hid hr
  clear hr
  have hc0 : Calls Tryd.prog 48 #[.pointer (some ⟨bl, 0, none⟩), .slice (some ⟨w.heap.size + 1 + 1 + 1 + 1, 0, none⟩) 2 2] ((((((w).alloc (.cells #[.int .u8 21, .int .u8 22, .int .u8 23, .int .u8 24, .int .u8 25, .int .u8 26, .int .u8 27, .int .u8 28, .int .u8 29, .int .u8 30, .int .u8 31, .int .u8 32, .int .u8 33, .int .u8 35] 22)).alloc (.cells #[.slice (some ⟨w.heap.size, 0, none⟩) 14 14] 53)).alloc (.cells #[.int .u8 21, .int .u8 22, .int .u8 23, .int .u8 24, .int .u8 25, .int .u8 26, .int .u8 27, .int .u8 28, .int .u8 29, .int .u8 30, .int .u8 31, .int .u8 32, .int .u8 33, .int .u8 35] 22)).alloc (.cells #[.slice (some ⟨w.heap.size + 1 + 1, 0, none⟩) 14 14] 53)).alloc (.cells #[.func (.func 30) #[] #[.pointer (some ⟨w.heap.size + 1, 0, none⟩)], .func (.func 30) #[] #[.pointer (some ⟨w.heap.size + 1 + 1 + 1, 0, none⟩)]] 48)) (TakePost (stepQ [isK [21, 22, 23, 24, 25, 26, 27, 28, 29, 30, 31, 32, 33, 35], isK [21, 22, 23, 24, 25, 26, 27, 28, 29, 30, 31, 32, 33, 35]] K) t d bl B w) := next_lit2 t d bl B A c K w hlb hin hBb [21, 22, 23, 24, 25, 26, 27, 28, 29, 30, 31, 32, 33, 35] [21, 22, 23, 24, 25, 26, 27, 28, 29, 30, 31, 32, 33, 35] (by decide) (by decide) (by decide) (by decide)
  have HC0 := Lib.hid hc0
  have HLB0 := Lib.hid hlb
  have HIN0 := Lib.hid hin
  have hle0 := hin.len
  have hca0 := hin.cap
  unfold maxLen at hca0
  obtain ⟨c0_0, _, c2_0, _, c4_0, _, _⟩ := hlb
  rw [hkind] at c0_0
  replace c0_0 : w.cell? ⟨bl, 0, none⟩ = some (.int .u8 27) := c0_0
  clear hkind
  clear hc0 hin
  cases hs0 : stepQ [isK [21, 22, 23, 24, 25, 26, 27, 28, 29, 30, 31, 32, 33, 35], isK [21, 22, 23, 24, 25, 26, 27, 28, 29, 30, 31, 32, 33, 35]] K with
  | none =>
    have HS0 := Lib.hid hs0
    have hn0 := HC0.out
    rw [hs0] at hn0
    have HN0 := Lib.hid hn0
    clear hs0 hn0 HC0
    go_enter Tryd.func39, Tryd.ntmps39
    go_wp2_with (first | (go_at_call 49; refine (types_any _).mono ?_; rintro e w' ⟨rfl, rfl⟩) | (go_at_call 54; refine (blocks_any _).mono ?_; rintro e w' ⟨rfl, rfl⟩) | (go_at_call 52; refine (calls_any _).mono ?_; rintro e w' ⟨rfl, rfl⟩) | (go_at_call 36; refine (statements_any _).mono ?_; rintro e w' ⟨rfl, rfl⟩) | (go_at_call 38; refine (expressions_any _).mono ?_; rintro e w' ⟨rfl, rfl⟩) | (go_at_call 24; refine (of_any _ _ _ _ _).mono ?_; rintro e w' ⟨rfl, rfl⟩))
    refine HN0.out.mono ?_
    rintro e w1 ⟨rfl, hg0⟩
    have HG1 := Lib.hid hg0
    clear hg0
    go_wp2_with fail
    refine ⟨rfl, ?_⟩
    have hfin : r = none := by rw [← HR.out]; simp only [Option.bind_some, Option.bind_none, HS0.out]
    rw [hfin]
    exact ⟨rfl, HG1.out⟩
  | some K1 =>
    have HS0 := Lib.hid hs0
    have hn0 := HC0.out
    rw [hs0] at hn0
    have HN0 := Lib.hid hn0
    clear hs0 hn0 HC0
    go_enter Tryd.func39, Tryd.ntmps39
    go_wp2_with (first | (go_at_call 49; refine (types_any _).mono ?_; rintro e w' ⟨rfl, rfl⟩) | (go_at_call 54; refine (blocks_any _).mono ?_; rintro e w' ⟨rfl, rfl⟩) | (go_at_call 52; refine (calls_any _).mono ?_; rintro e w' ⟨rfl, rfl⟩) | (go_at_call 36; refine (statements_any _).mono ?_; rintro e w' ⟨rfl, rfl⟩) | (go_at_call 38; refine (expressions_any _).mono ?_; rintro e w' ⟨rfl, rfl⟩) | (go_at_call 24; refine (of_any _ _ _ _ _).mono ?_; rintro e w' ⟨rfl, rfl⟩))
    refine HN0.out.mono ?_
    rintro e w1 ⟨rfl, hg0, A1, c1, hl1, hi1⟩
    have HG1 := Lib.hid hg0
    clear hg0
    have HLB1 := Lib.hid hl1
    have HIN1 := Lib.hid hi1
    clear hl1 hi1
    go_wp2_with fail
    go_end0
    have hfin : r = some K1 := by rw [← HR.out]; simp only [Option.bind_some, HS0.out]
    rw [hfin]
    exact ⟨rfl, HG1.out, _, _, HLB1.out, HIN1.out⟩
set_option maxHeartbeats 1000000 in
theorem take_28 (t : Nd) (d : Int) (bl B : Nat) (A : Option Addr) (c : Nat) (K : List Nd) (w : World) (hkind : t.kind = 28) (hlb : LookBox w bl t d A K.length c) (hin : InL w B A c K) (hBb : B ≤ bl) :
    Calls Tryd.prog 39 #[.pointer (some ⟨bl, 0, none⟩)] w (TakePost ((if (K).all (isK [21, 22, 23, 24, 25, 26, 27, 28, 29, 30, 31, 32, 33, 35]) then some [] else none)) t d bl B w) := by
  generalize hr : ((if (K).all (isK [21, 22, 23, 24, 25, 26, 27, 28, 29, 30, 31, 32, 33, 35]) then some [] else none)) = r
  have HR := Lib.hid hr
  clear hr
  have hc0 : Calls Tryd.prog 47 #[.pointer (some ⟨bl, 0, none⟩), .func (.func 30) #[] #[.pointer (some ⟨w.heap.size + 1, 0, none⟩)]] (((w).alloc (.cells #[.int .u8 21, .int .u8 22, .int .u8 23, .int .u8 24, .int .u8 25, .int .u8 26, .int .u8 27, .int .u8 28, .int .u8 29, .int .u8 30, .int .u8 31, .int .u8 32, .int .u8 33, .int .u8 35] 22)).alloc (.cells #[.slice (some ⟨w.heap.size, 0, none⟩) 14 14] 53)) (TakePost (if (K).all (isK [21, 22, 23, 24, 25, 26, 27, 28, 29, 30, 31, 32, 33, 35]) then some [] else none) t d bl B w) := rest_lit t d bl B A c K w hlb hin hBb [21, 22, 23, 24, 25, 26, 27, 28, 29, 30, 31, 32, 33, 35] (by decide) (by decide)
  have HC0 := Lib.hid hc0
  have HLB0 := Lib.hid hlb
  have HIN0 := Lib.hid hin
  have hle0 := hin.len
  have hca0 := hin.cap
  unfold maxLen at hca0
  obtain ⟨c0_0, _, c2_0, _, c4_0, _, _⟩ := hlb
  rw [hkind] at c0_0
  replace c0_0 : w.cell? ⟨bl, 0, none⟩ = some (.int .u8 28) := c0_0
  clear hkind
  clear hc0 hin
  cases hs0 : (if (K).all (isK [21, 22, 23, 24, 25, 26, 27, 28, 29, 30, 31, 32, 33, 35]) then some [] else none) with
  | none =>
    have HS0 := Lib.hid hs0
    have hn0 := HC0.out
    rw [hs0] at hn0
    have HN0 := Lib.hid hn0
    clear hs0 hn0 HC0
    go_enter Tryd.func39, Tryd.ntmps39
    go_wp2_with (first | (go_at_call 49; refine (types_any _).mono ?_; rintro e w' ⟨rfl, rfl⟩) | (go_at_call 54; refine (blocks_any _).mono ?_; rintro e w' ⟨rfl, rfl⟩) | (go_at_call 52; refine (calls_any _).mono ?_; rintro e w' ⟨rfl, rfl⟩) | (go_at_call 36; refine (statements_any _).mono ?_; rintro e w' ⟨rfl, rfl⟩) | (go_at_call 38; refine (expressions_any _).mono ?_; rintro e w' ⟨rfl, rfl⟩) | (go_at_call 24; refine (of_any _ _ _ _ _).mono ?_; rintro e w' ⟨rfl, rfl⟩))
    refine HN0.out.mono ?_
    rintro e w1 ⟨rfl, hg0⟩
    have HG1 := Lib.hid hg0
    clear hg0
    go_wp2_with fail
    refine ⟨rfl, ?_⟩
    have hfin : r = none := by rw [← HR.out]; simp only [Option.bind_some, Option.bind_none, HS0.out]
    rw [hfin]
    exact ⟨rfl, HG1.out⟩
  | some K1 =>
    have HS0 := Lib.hid hs0
    have hn0 := HC0.out
    rw [hs0] at hn0
    have HN0 := Lib.hid hn0
    clear hs0 hn0 HC0
    go_enter Tryd.func39, Tryd.ntmps39
    go_wp2_with (first | (go_at_call 49; refine (types_any _).mono ?_; rintro e w' ⟨rfl, rfl⟩) | (go_at_call 54; refine (blocks_any _).mono ?_; rintro e w' ⟨rfl, rfl⟩) | (go_at_call 52; refine (calls_any _).mono ?_; rintro e w' ⟨rfl, rfl⟩) | (go_at_call 36; refine (statements_any _).mono ?_; rintro e w' ⟨rfl, rfl⟩) | (go_at_call 38; refine (expressions_any _).mono ?_; rintro e w' ⟨rfl, rfl⟩) | (go_at_call 24; refine (of_any _ _ _ _ _).mono ?_; rintro e w' ⟨rfl, rfl⟩))
    refine HN0.out.mono ?_
    rintro e w1 ⟨rfl, hg0, A1, c1, hl1, hi1⟩
    have HG1 := Lib.hid hg0
    clear hg0
    have HLB1 := Lib.hid hl1
    have HIN1 := Lib.hid hi1
    clear hl1 hi1
    go_wp2_with fail
    go_end0
    have hfin : r = some K1 := by rw [← HR.out]; simp only [Option.bind_some, HS0.out]
    rw [hfin]
    exact ⟨rfl, HG1.out, _, _, HLB1.out, HIN1.out⟩
set_option maxHeartbeats 1000000 in
theorem take_29 (t : Nd) (d : Int) (bl B : Nat) (A : Option Addr) (c : Nat) (K : List Nd) (w : World) (hkind : t.kind = 29) (hlb : LookBox w bl t d A K.length c) (hin : InL w B A c K) (hBb : B ≤ bl) :
    Calls Tryd.prog 39 #[.pointer (some ⟨bl, 0, none⟩)] w (TakePost (stepQ [isK [21, 22, 23, 24, 25, 26, 27, 28, 29, 30, 31, 32, 33, 35], isK [21, 22, 23, 24, 25, 26, 27, 28, 29, 30, 31, 32, 33, 35]] K) t d bl B w) := by
  generalize hr : (stepQ [isK [21, 22, 23, 24, 25, 26, 27, 28, 29, 30, 31, 32, 33, 35], isK [21, 22, 23, 24, 25, 26, 27, 28, 29, 30, 31, 32, 33, 35]] K) = r
  have HR := Lib.hid hr
  clear hr
  have hc0 : Calls Tryd.prog 48 #[.pointer (some ⟨bl, 0, none⟩), .slice (some ⟨w.heap.size + 1 + 1 + 1 + 1, 0, none⟩) 2 2] ((((((w).alloc (.cells #[.int .u8 21, .int .u8 22, .int .u8 23, .int .u8 24, .int .u8 25, .int .u8 26, .int .u8 27, .int .u8 28, .int .u8 29, .int .u8 30, .int .u8 31, .int .u8 32, .int .u8 33, .int .u8 35] 22)).alloc (.cells #[.slice (some ⟨w.heap.size, 0, none⟩) 14 14] 53)).alloc (.cells #[.int .u8 21, .int .u8 22, .int .u8 23, .int .u8 24, .int .u8 25, .int .u8 26, .int .u8 27, .int .u8 28, .int .u8 29, .int .u8 30, .int .u8 31, .int .u8 32, .int .u8 33, .int .u8 35] 22)).alloc (.cells #[.slice (some ⟨w.heap.size + 1 + 1, 0, none⟩) 14 14] 53)).alloc (.cells #[.func (.func 30) #[] #[.pointer (some ⟨w.heap.size + 1, 0, none⟩)], .func (.func 30) #[] #[.pointer (some ⟨w.heap.size + 1 + 1 + 1, 0, none⟩)]] 48)) (TakePost (stepQ [isK [21, 22, 23, 24, 25, 26, 27, 28, 29, 30, 31, 32, 33, 35], isK [21, 22, 23, 24, 25, 26, 27, 28, 29, 30, 31, 32, 33, 35]] K) t d bl B w) := next_lit2 t d bl B A c K w hlb hin hBb [21, 22, 23, 24, 25, 26, 27, 28, 29, 30, 31, 32, 33, 35] [21, 22, 23, 24, 25, 26, 27, 28, 29, 30, 31, 32, 33, 35] (by decide) (by decide) (by decide) (by decide)
  have HC0 := Lib.hid hc0
  have HLB0 := Lib.hid hlb
  have HIN0 := Lib.hid hin
  have hle0 := hin.len
  have hca0 := hin.cap
  unfold maxLen at hca0
  obtain ⟨c0_0, _, c2_0, _, c4_0, _, _⟩ := hlb
  rw [hkind] at c0_0
  replace c0_0 : w.cell? ⟨bl, 0, none⟩ = some (.int .u8 29) := c0_0
  clear hkind
  clear hc0 hin
  cases hs0 : stepQ [isK [21, 22, 23, 24, 25, 26, 27, 28, 29, 30, 31, 32, 33, 35], isK [21, 22, 23, 24, 25, 26, 27, 28, 29, 30, 31, 32, 33, 35]] K with
  | none =>
    have HS0 := Lib.hid hs0
    have hn0 := HC0.out
    rw [hs0] at hn0
    have HN0 := Lib.hid hn0
    clear hs0 hn0 HC0
    go_enter Tryd.func39, Tryd.ntmps39
    go_wp2_with (first | (go_at_call 49; refine (types_any _).mono ?_; rintro e w' ⟨rfl, rfl⟩) | (go_at_call 54; refine (blocks_any _).mono ?_; rintro e w' ⟨rfl, rfl⟩) | (go_at_call 52; refine (calls_any _).mono ?_; rintro e w' ⟨rfl, rfl⟩) | (go_at_call 36; refine (statements_any _).mono ?_; rintro e w' ⟨rfl, rfl⟩) | (go_at_call 38; refine (expressions_any _).mono ?_; rintro e w' ⟨rfl, rfl⟩) | (go_at_call 24; refine (of_any _ _ _ _ _).mono ?_; rintro e w' ⟨rfl, rfl⟩))
    refine HN0.out.mono ?_
    rintro e w1 ⟨rfl, hg0⟩
    have HG1 := Lib.hid hg0
    clear hg0
    go_wp2_with fail
    refine ⟨rfl, ?_⟩
    have hfin : r = none := by rw [← HR.out]; simp only [Option.bind_some, Option.bind_none, HS0.out]
    rw [hfin]
    exact ⟨rfl, HG1.out⟩
  | some K1 =>
    have HS0 := Lib.hid hs0
    have hn0 := HC0.out
    rw [hs0] at hn0
    have HN0 := Lib.hid hn0
    clear hs0 hn0 HC0
    go_enter Tryd.func39, Tryd.ntmps39
    go_wp2_with (first | (go_at_call 49; refine (types_any _).mono ?_; rintro e w' ⟨rfl, rfl⟩) | (go_at_call 54; refine (blocks_any _).mono ?_; rintro e w' ⟨rfl, rfl⟩) | (go_at_call 52; refine (calls_any _).mono ?_; rintro e w' ⟨rfl, rfl⟩) | (go_at_call 36; refine (statements_any _).mono ?_; rintro e w' ⟨rfl, rfl⟩) | (go_at_call 38; refine (expressions_any _).mono ?_; rintro e w' ⟨rfl, rfl⟩) | (go_at_call 24; refine (of_any _ _ _ _ _).mono ?_; rintro e w' ⟨rfl, rfl⟩))
    refine HN0.out.mono ?_
    rintro e w1 ⟨rfl, hg0, A1, c1, hl1, hi1⟩
    have HG1 := Lib.hid hg0
    clear hg0
    have HLB1 := Lib.hid hl1
    have HIN1 := Lib.hid hi1
    clear hl1 hi1
    go_wp2_with fail
    go_end0
    have hfin : r = some K1 := by rw [← HR.out]; simp only [Option.bind_some, HS0.out]
    rw [hfin]
    exact ⟨rfl, HG1.out, _, _, HLB1.out, HIN1.out⟩
set_option maxHeartbeats 1000000 in
theorem take_30 (t : Nd) (d : Int) (bl B : Nat) (A : Option Addr) (c : Nat) (K : List Nd) (w : World) (hkind : t.kind = 30) (hlb : LookBox w bl t d A K.length c) (hin : InL w B A c K) (hBb : B ≤ bl) :
    Calls Tryd.prog 39 #[.pointer (some ⟨bl, 0, none⟩)] w (TakePost (stepQ [isK [21, 22, 23, 24, 25, 26, 27, 28, 29, 30, 31, 32, 33, 35], isK [21, 22, 23, 24, 25, 26, 27, 28, 29, 30, 31, 32, 33, 35]] K) t d bl B w) := by
  generalize hr : (stepQ [isK [21, 22, 23, 24, 25, 26, 27, 28, 29, 30, 31, 32, 33, 35], isK [21, 22, 23, 24, 25, 26, 27, 28, 29, 30, 31, 32, 33, 35]] K) = r
  have HR := Lib.hid hr
  clear hr
  have hc0 : Calls Tryd.prog 48 #[.pointer (some ⟨bl, 0, none⟩), .slice (some ⟨w.heap.size + 1 + 1 + 1 + 1, 0, none⟩) 2 2] ((((((w).alloc (.cells #[.int .u8 21, .int .u8 22, .int .u8 23, .int .u8 24, .int .u8 25, .int .u8 26, .int .u8 27, .int .u8 28, .int .u8 29, .int .u8 30, .int .u8 31, .int .u8 32, .int .u8 33, .int .u8 35] 22)).alloc (.cells #[.slice (some ⟨w.heap.size, 0, none⟩) 14 14] 53)).alloc (.cells #[.int .u8 21, .int .u8 22, .int .u8 23, .int .u8 24, .int .u8 25, .int .u8 26, .int .u8 27, .int .u8 28, .int .u8 29, .int .u8 30, .int .u8 31, .int .u8 32, .int .u8 33, .int .u8 35] 22)).alloc (.cells #[.slice (some ⟨w.heap.size + 1 + 1, 0, none⟩) 14 14] 53)).alloc (.cells #[.func (.func 30) #[] #[.pointer (some ⟨w.heap.size + 1, 0, none⟩)], .func (.func 30) #[] #[.pointer (some ⟨w.heap.size + 1 + 1 + 1, 0, none⟩)]] 48)) (TakePost (stepQ [isK [21, 22, 23, 24, 25, 26, 27, 28, 29, 30, 31, 32, 33, 35], isK [21, 22, 23, 24, 25, 26, 27, 28, 29, 30, 31, 32, 33, 35]] K) t d bl B w) := next_lit2 t d bl B A c K w hlb hin hBb [21, 22, 23, 24, 25, 26, 27, 28, 29, 30, 31, 32, 33, 35] [21, 22, 23, 24, 25, 26, 27, 28, 29, 30, 31, 32, 33, 35] (by decide) (by decide) (by decide) (by decide)
  have HC0 := Lib.hid hc0
  have HLB0 := Lib.hid hlb
  have HIN0 := Lib.hid hin
  have hle0 := hin.len
  have hca0 := hin.cap
  unfold maxLen at hca0
  obtain ⟨c0_0, _, c2_0, _, c4_0, _, _⟩ := hlb
  rw [hkind] at c0_0
  replace c0_0 : w.cell? ⟨bl, 0, none⟩ = some (.int .u8 30) := c0_0
  clear hkind
  clear hc0 hin
  cases hs0 : stepQ [isK [21, 22, 23, 24, 25, 26, 27, 28, 29, 30, 31, 32, 33, 35], isK [21, 22, 23, 24, 25, 26, 27, 28, 29, 30, 31, 32, 33, 35]] K with
  | none =>
    have HS0 := Lib.hid hs0
    have hn0 := HC0.out
    rw [hs0] at hn0
    have HN0 := Lib.hid hn0
    clear hs0 hn0 HC0
    go_enter Tryd.func39, Tryd.ntmps39
    go_wp2_with (first | (go_at_call 49; refine (types_any _).mono ?_; rintro e w' ⟨rfl, rfl⟩) | (go_at_call 54; refine (blocks_any _).mono ?_; rintro e w' ⟨rfl, rfl⟩) | (go_at_call 52; refine (calls_any _).mono ?_; rintro e w' ⟨rfl, rfl⟩) | (go_at_call 36; refine (statements_any _).mono ?_; rintro e w' ⟨rfl, rfl⟩) | (go_at_call 38; refine (expressions_any _).mono ?_; rintro e w' ⟨rfl, rfl⟩) | (go_at_call 24; refine (of_any _ _ _ _ _).mono ?_; rintro e w' ⟨rfl, rfl⟩))
    refine HN0.out.mono ?_
    rintro e w1 ⟨rfl, hg0⟩
    have HG1 := Lib.hid hg0
    clear hg0
    go_wp2_with fail
    refine ⟨rfl, ?_⟩
    have hfin : r = none := by rw [← HR.out]; simp only [Option.bind_some, Option.bind_none, HS0.out]
    rw [hfin]
    exact ⟨rfl, HG1.out⟩
  | some K1 =>
    have HS0 := Lib.hid hs0
    have hn0 := HC0.out
    rw [hs0] at hn0
    have HN0 := Lib.hid hn0
    clear hs0 hn0 HC0
    go_enter Tryd.func39, Tryd.ntmps39
    go_wp2_with (first | (go_at_call 49; refine (types_any _).mono ?_; rintro e w' ⟨rfl, rfl⟩) | (go_at_call 54; refine (blocks_any _).mono ?_; rintro e w' ⟨rfl, rfl⟩) | (go_at_call 52; refine (calls_any _).mono ?_; rintro e w' ⟨rfl, rfl⟩) | (go_at_call 36; refine (statements_any _).mono ?_; rintro e w' ⟨rfl, rfl⟩) | (go_at_call 38; refine (expressions_any _).mono ?_; rintro e w' ⟨rfl, rfl⟩) | (go_at_call 24; refine (of_any _ _ _ _ _).mono ?_; rintro e w' ⟨rfl, rfl⟩))
    refine HN0.out.mono ?_
    rintro e w1 ⟨rfl, hg0, A1, c1, hl1, hi1⟩
    have HG1 := Lib.hid hg0
    clear hg0
    have HLB1 := Lib.hid hl1
    have HIN1 := Lib.hid hi1
    clear hl1 hi1
    go_wp2_with fail
    go_end0
    have hfin : r = some K1 := by rw [← HR.out]; simp only [Option.bind_some, HS0.out]
    rw [hfin]
    exact ⟨rfl, HG1.out, _, _, HLB1.out, HIN1.out⟩
set_option maxHeartbeats 1000000 in
theorem take_31 (t : Nd) (d : Int) (bl B : Nat) (A : Option Addr) (c : Nat) (K : List Nd) (w : World) (hkind : t.kind = 31) (hlb : LookBox w bl t d A K.length c) (hin : InL w B A c K) (hBb : B ≤ bl) :
    Calls Tryd.prog 39 #[.pointer (some ⟨bl, 0, none⟩)] w (TakePost (stepQ [isK [21, 22, 23, 24, 25, 26, 27, 28, 29, 30, 31, 32, 33, 35]] K) t d bl B w) := by
  generalize hr : (stepQ [isK [21, 22, 23, 24, 25, 26, 27, 28, 29, 30, 31, 32, 33, 35]] K) = r
  have HR := Lib.hid hr
  clear hr
  have hc0 : Calls Tryd.prog 48 #[.pointer (some ⟨bl, 0, none⟩), .slice (some ⟨w.heap.size + 1 + 1, 0, none⟩) 1 1] ((((w).alloc (.cells #[.int .u8 21, .int .u8 22, .int .u8 23, .int .u8 24, .int .u8 25, .int .u8 26, .int .u8 27, .int .u8 28, .int .u8 29, .int .u8 30, .int .u8 31, .int .u8 32, .int .u8 33, .int .u8 35] 22)).alloc (.cells #[.slice (some ⟨w.heap.size, 0, none⟩) 14 14] 53)).alloc (.cells #[.func (.func 30) #[] #[.pointer (some ⟨w.heap.size + 1, 0, none⟩)]] 48)) (TakePost (stepQ [isK [21, 22, 23, 24, 25, 26, 27, 28, 29, 30, 31, 32, 33, 35]] K) t d bl B w) := next_lit1 t d bl B A c K w hlb hin hBb [21, 22, 23, 24, 25, 26, 27, 28, 29, 30, 31, 32, 33, 35] (by decide) (by decide)
  have HC0 := Lib.hid hc0
  have HLB0 := Lib.hid hlb
  have HIN0 := Lib.hid hin
  have hle0 := hin.len
  have hca0 := hin.cap
  unfold maxLen at hca0
  obtain ⟨c0_0, _, c2_0, _, c4_0, _, _⟩ := hlb
  rw [hkind] at c0_0
  replace c0_0 : w.cell? ⟨bl, 0, none⟩ = some (.int .u8 31) := c0_0
  clear hkind
  clear hc0 hin
  cases hs0 : stepQ [isK [21, 22, 23, 24, 25, 26, 27, 28, 29, 30, 31, 32, 33, 35]] K with
  | none =>
    have HS0 := Lib.hid hs0
    have hn0 := HC0.out
    rw [hs0] at hn0
    have HN0 := Lib.hid hn0
    clear hs0 hn0 HC0
    go_enter Tryd.func39, Tryd.ntmps39
    go_wp2_with (first | (go_at_call 49; refine (types_any _).mono ?_; rintro e w' ⟨rfl, rfl⟩) | (go_at_call 54; refine (blocks_any _).mono ?_; rintro e w' ⟨rfl, rfl⟩) | (go_at_call 52; refine (calls_any _).mono ?_; rintro e w' ⟨rfl, rfl⟩) | (go_at_call 36; refine (statements_any _).mono ?_; rintro e w' ⟨rfl, rfl⟩) | (go_at_call 38; refine (expressions_any _).mono ?_; rintro e w' ⟨rfl, rfl⟩) | (go_at_call 24; refine (of_any _ _ _ _ _).mono ?_; rintro e w' ⟨rfl, rfl⟩))
    refine HN0.out.mono ?_
    rintro e w1 ⟨rfl, hg0⟩
    have HG1 := Lib.hid hg0
    clear hg0
    go_wp2_with fail
    refine ⟨rfl, ?_⟩
    have hfin : r = none := by rw [← HR.out]; simp only [Option.bind_some, Option.bind_none, HS0.out]
    rw [hfin]
    exact ⟨rfl, HG1.out⟩
  | some K1 =>
    have HS0 := Lib.hid hs0
    have hn0 := HC0.out
    rw [hs0] at hn0
    have HN0 := Lib.hid hn0
    clear hs0 hn0 HC0
    go_enter Tryd.func39, Tryd.ntmps39
    go_wp2_with (first | (go_at_call 49; refine (types_any _).mono ?_; rintro e w' ⟨rfl, rfl⟩) | (go_at_call 54; refine (blocks_any _).mono ?_; rintro e w' ⟨rfl, rfl⟩) | (go_at_call 52; refine (calls_any _).mono ?_; rintro e w' ⟨rfl, rfl⟩) | (go_at_call 36; refine (statements_any _).mono ?_; rintro e w' ⟨rfl, rfl⟩) | (go_at_call 38; refine (expressions_any _).mono ?_; rintro e w' ⟨rfl, rfl⟩) | (go_at_call 24; refine (of_any _ _ _ _ _).mono ?_; rintro e w' ⟨rfl, rfl⟩))
    refine HN0.out.mono ?_
    rintro e w1 ⟨rfl, hg0, A1, c1, hl1, hi1⟩
    have HG1 := Lib.hid hg0
    clear hg0
    have HLB1 := Lib.hid hl1
    have HIN1 := Lib.hid hi1
    clear hl1 hi1
    go_wp2_with fail
    go_end0
    have hfin : r = some K1 := by rw [← HR.out]; simp only [Option.bind_some, HS0.out]
    rw [hfin]
    exact ⟨rfl, HG1.out, _, _, HLB1.out, HIN1.out⟩
set_option maxHeartbeats 1000000 in
theorem take_32 (t : Nd) (d : Int) (bl B : Nat) (A : Option Addr) (c : Nat) (K : List Nd) (w : World) (hkind : t.kind = 32) (hlb : LookBox w bl t d A K.length c) (hin : InL w B A c K) (hBb : B ≤ bl) :
    Calls Tryd.prog 39 #[.pointer (some ⟨bl, 0, none⟩)] w (TakePost ((stepQ [isK [8]] K).bind fun K' => (if (K').all (isK [21, 22, 23, 24, 25, 26, 27, 28, 29, 30, 31, 32, 33, 35]) then some [] else none)) t d bl B w) := by
  generalize hr : ((stepQ [isK [8]] K).bind fun K' => (if (K').all (isK [21, 22, 23, 24, 25, 26, 27, 28, 29, 30, 31, 32, 33, 35]) then some [] else none)) = r
  have HR := Lib.hid hr
  clear hr
  have hc0 : Calls Tryd.prog 48 #[.pointer (some ⟨bl, 0, none⟩), .slice (some ⟨w.heap.size + 1 + 1, 0, none⟩) 1 1] ((((w).alloc (.cells #[.int .u8 8] 22)).alloc (.cells #[.slice (some ⟨w.heap.size, 0, none⟩) 1 1] 53)).alloc (.cells #[.func (.func 30) #[] #[.pointer (some ⟨w.heap.size + 1, 0, none⟩)]] 48)) (TakePost (stepQ [isK [8]] K) t d bl B w) := next_lit1 t d bl B A c K w hlb hin hBb [8] (by decide) (by decide)
  have HC0 := Lib.hid hc0
  have HLB0 := Lib.hid hlb
  have HIN0 := Lib.hid hin
  have hle0 := hin.len
  have hca0 := hin.cap
  unfold maxLen at hca0
  obtain ⟨c0_0, _, c2_0, _, c4_0, _, _⟩ := hlb
  rw [hkind] at c0_0
  replace c0_0 : w.cell? ⟨bl, 0, none⟩ = some (.int .u8 32) := c0_0
  clear hkind
  clear hc0 hin
  cases hs0 : stepQ [isK [8]] K with
  | none =>
    have HS0 := Lib.hid hs0
    have hn0 := HC0.out
    rw [hs0] at hn0
    have HN0 := Lib.hid hn0
    clear hs0 hn0 HC0
    go_enter Tryd.func39, Tryd.ntmps39
    go_wp2_with (first | (go_at_call 49; refine (types_any _).mono ?_; rintro e w' ⟨rfl, rfl⟩) | (go_at_call 54; refine (blocks_any _).mono ?_; rintro e w' ⟨rfl, rfl⟩) | (go_at_call 52; refine (calls_any _).mono ?_; rintro e w' ⟨rfl, rfl⟩) | (go_at_call 36; refine (statements_any _).mono ?_; rintro e w' ⟨rfl, rfl⟩) | (go_at_call 38; refine (expressions_any _).mono ?_; rintro e w' ⟨rfl, rfl⟩) | (go_at_call 24; refine (of_any _ _ _ _ _).mono ?_; rintro e w' ⟨rfl, rfl⟩))
    refine HN0.out.mono ?_
    rintro e w1 ⟨rfl, hg0⟩
    have HG1 := Lib.hid hg0
    clear hg0
    go_wp2_with fail
    refine ⟨rfl, ?_⟩
    have hfin : r = none := by rw [← HR.out]; simp only [Option.bind_some, Option.bind_none, HS0.out]
    rw [hfin]
    exact ⟨rfl, HG1.out⟩
  | some K1 =>
    have HS0 := Lib.hid hs0
    have hn0 := HC0.out
    rw [hs0] at hn0
    have HN0 := Lib.hid hn0
    clear hs0 hn0 HC0
    go_enter Tryd.func39, Tryd.ntmps39
    go_wp2_with (first | (go_at_call 49; refine (types_any _).mono ?_; rintro e w' ⟨rfl, rfl⟩) | (go_at_call 54; refine (blocks_any _).mono ?_; rintro e w' ⟨rfl, rfl⟩) | (go_at_call 52; refine (calls_any _).mono ?_; rintro e w' ⟨rfl, rfl⟩) | (go_at_call 36; refine (statements_any _).mono ?_; rintro e w' ⟨rfl, rfl⟩) | (go_at_call 38; refine (expressions_any _).mono ?_; rintro e w' ⟨rfl, rfl⟩) | (go_at_call 24; refine (of_any _ _ _ _ _).mono ?_; rintro e w' ⟨rfl, rfl⟩))
    refine HN0.out.mono ?_
    rintro e w1 ⟨rfl, hg0, A1, c1, hl1, hi1⟩
    have HG1 := Lib.hid hg0
    clear hg0
    have hc1 : Calls Tryd.prog 47 #[.pointer (some ⟨bl, 0, none⟩), .func (.func 30) #[] #[.pointer (some ⟨w1.heap.size + 1, 0, none⟩)]] (((w1).alloc (.cells #[.int .u8 21, .int .u8 22, .int .u8 23, .int .u8 24, .int .u8 25, .int .u8 26, .int .u8 27, .int .u8 28, .int .u8 29, .int .u8 30, .int .u8 31, .int .u8 32, .int .u8 33, .int .u8 35] 22)).alloc (.cells #[.slice (some ⟨w1.heap.size, 0, none⟩) 14 14] 53)) (TakePost (if (K1).all (isK [21, 22, 23, 24, 25, 26, 27, 28, 29, 30, 31, 32, 33, 35]) then some [] else none) t d bl B w1) := rest_lit t d bl B A1 c1 K1 w1 hl1 hi1 hBb [21, 22, 23, 24, 25, 26, 27, 28, 29, 30, 31, 32, 33, 35] (by decide) (by decide)
    have HC1 := Lib.hid hc1
    have HLB1 := Lib.hid hl1
    have HIN1 := Lib.hid hi1
    have hle1 := hi1.len
    have hca1 := hi1.cap
    unfold maxLen at hca1
    obtain ⟨c0_1, _, c2_1, _, c4_1, _, _⟩ := hl1
    clear hc1 hi1
    cases hs1 : (if (K1).all (isK [21, 22, 23, 24, 25, 26, 27, 28, 29, 30, 31, 32, 33, 35]) then some [] else none) with
    | none =>
      have HS1 := Lib.hid hs1
      have hn1 := HC1.out
      rw [hs1] at hn1
      have HN1 := Lib.hid hn1
      clear hs1 hn1 HC1
      go_wp2_with (first | (go_at_call 49; refine (types_any _).mono ?_; rintro e w' ⟨rfl, rfl⟩) | (go_at_call 54; refine (blocks_any _).mono ?_; rintro e w' ⟨rfl, rfl⟩) | (go_at_call 52; refine (calls_any _).mono ?_; rintro e w' ⟨rfl, rfl⟩) | (go_at_call 36; refine (statements_any _).mono ?_; rintro e w' ⟨rfl, rfl⟩) | (go_at_call 38; refine (expressions_any _).mono ?_; rintro e w' ⟨rfl, rfl⟩) | (go_at_call 24; refine (of_any _ _ _ _ _).mono ?_; rintro e w' ⟨rfl, rfl⟩))
      refine HN1.out.mono ?_
      rintro e w2 ⟨rfl, hg1⟩
      have HG2 := Lib.hid (grown_trans' HG1.out hg1)
      clear hg1
      go_wp2_with fail
      refine ⟨rfl, ?_⟩
      have hfin : r = none := by rw [← HR.out]; simp only [Option.bind_some, Option.bind_none, HS0.out, HS1.out]
      rw [hfin]
      exact ⟨rfl, HG2.out⟩
    | some K2 =>
      have HS1 := Lib.hid hs1
      have hn1 := HC1.out
      rw [hs1] at hn1
      have HN1 := Lib.hid hn1
      clear hs1 hn1 HC1
      go_wp2_with (first | (go_at_call 49; refine (types_any _).mono ?_; rintro e w' ⟨rfl, rfl⟩) | (go_at_call 54; refine (blocks_any _).mono ?_; rintro e w' ⟨rfl, rfl⟩) | (go_at_call 52; refine (calls_any _).mono ?_; rintro e w' ⟨rfl, rfl⟩) | (go_at_call 36; refine (statements_any _).mono ?_; rintro e w' ⟨rfl, rfl⟩) | (go_at_call 38; refine (expressions_any _).mono ?_; rintro e w' ⟨rfl, rfl⟩) | (go_at_call 24; refine (of_any _ _ _ _ _).mono ?_; rintro e w' ⟨rfl, rfl⟩))
      refine HN1.out.mono ?_
      rintro e w2 ⟨rfl, hg1, A2, c2, hl2, hi2⟩
      have HG2 := Lib.hid (grown_trans' HG1.out hg1)
      clear hg1
      have HLB2 := Lib.hid hl2
      have HIN2 := Lib.hid hi2
      clear hl2 hi2
      go_wp2_with fail
      go_end0
      have hfin : r = some K2 := by rw [← HR.out]; simp only [Option.bind_some, HS0.out, HS1.out]
      rw [hfin]
      exact ⟨rfl, HG2.out, _, _, HLB2.out, HIN2.out⟩
set_option maxHeartbeats 1000000 in
theorem take_33 (t : Nd) (d : Int) (bl B : Nat) (A : Option Addr) (c : Nat) (K : List Nd) (w : World) (hkind : t.kind = 33) (hlb : LookBox w bl t d A K.length c) (hin : InL w B A c K) (hBb : B ≤ bl) :
    Calls Tryd.prog 39 #[.pointer (some ⟨bl, 0, none⟩)] w (TakePost ((if (K).all (isK [34]) then some [] else none)) t d bl B w) := by
  generalize hr : ((if (K).all (isK [34]) then some [] else none)) = r
  have HR := Lib.hid hr
  clear hr
  have hc0 : Calls Tryd.prog 47 #[.pointer (some ⟨bl, 0, none⟩), .func (.func 30) #[] #[.pointer (some ⟨w.heap.size + 1, 0, none⟩)]] (((w).alloc (.cells #[.int .u8 34] 22)).alloc (.cells #[.slice (some ⟨w.heap.size, 0, none⟩) 1 1] 53)) (TakePost (if (K).all (isK [34]) then some [] else none) t d bl B w) := rest_lit t d bl B A c K w hlb hin hBb [34] (by decide) (by decide)
  have HC0 := Lib.hid hc0
  have HLB0 := Lib.hid hlb
  have HIN0 := Lib.hid hin
  have hle0 := hin.len
  have hca0 := hin.cap
  unfold maxLen at hca0
  obtain ⟨c0_0, _, c2_0, _, c4_0, _, _⟩ := hlb
  rw [hkind] at c0_0
  replace c0_0 : w.cell? ⟨bl, 0, none⟩ = some (.int .u8 33) := c0_0
  clear hkind
  clear hc0 hin
  cases hs0 : (if (K).all (isK [34]) then some [] else none) with
  | none =>
    have HS0 := Lib.hid hs0
    have hn0 := HC0.out
    rw [hs0] at hn0
    have HN0 := Lib.hid hn0
    clear hs0 hn0 HC0
    go_enter Tryd.func39, Tryd.ntmps39
    go_wp2_with (first | (go_at_call 49; refine (types_any _).mono ?_; rintro e w' ⟨rfl, rfl⟩) | (go_at_call 54; refine (blocks_any _).mono ?_; rintro e w' ⟨rfl, rfl⟩) | (go_at_call 52; refine (calls_any _).mono ?_; rintro e w' ⟨rfl, rfl⟩) | (go_at_call 36; refine (statements_any _).mono ?_; rintro e w' ⟨rfl, rfl⟩) | (go_at_call 38; refine (expressions_any _).mono ?_; rintro e w' ⟨rfl, rfl⟩) | (go_at_call 24; refine (of_any _ _ _ _ _).mono ?_; rintro e w' ⟨rfl, rfl⟩))
    refine HN0.out.mono ?_
    rintro e w1 ⟨rfl, hg0⟩
    have HG1 := Lib.hid hg0
    clear hg0
    go_wp2_with fail
    refine ⟨rfl, ?_⟩
    have hfin : r = none := by rw [← HR.out]; simp only [Option.bind_some, Option.bind_none, HS0.out]
    rw [hfin]
    exact ⟨rfl, HG1.out⟩
  | some K1 =>
    have HS0 := Lib.hid hs0
    have hn0 := HC0.out
    rw [hs0] at hn0
    have HN0 := Lib.hid hn0
    clear hs0 hn0 HC0
    go_enter Tryd.func39, Tryd.ntmps39
    go_wp2_with (first | (go_at_call 49; refine (types_any _).mono ?_; rintro e w' ⟨rfl, rfl⟩) | (go_at_call 54; refine (blocks_any _).mono ?_; rintro e w' ⟨rfl, rfl⟩) | (go_at_call 52; refine (calls_any _).mono ?_; rintro e w' ⟨rfl, rfl⟩) | (go_at_call 36; refine (statements_any _).mono ?_; rintro e w' ⟨rfl, rfl⟩) | (go_at_call 38; refine (expressions_any _).mono ?_; rintro e w' ⟨rfl, rfl⟩) | (go_at_call 24; refine (of_any _ _ _ _ _).mono ?_; rintro e w' ⟨rfl, rfl⟩))
    refine HN0.out.mono ?_
    rintro e w1 ⟨rfl, hg0, A1, c1, hl1, hi1⟩
    have HG1 := Lib.hid hg0
    clear hg0
    have HLB1 := Lib.hid hl1
    have HIN1 := Lib.hid hi1
    clear hl1 hi1
    go_wp2_with fail
    go_end0
    have hfin : r = some K1 := by rw [← HR.out]; simp only [Option.bind_some, HS0.out]
    rw [hfin]
    exact ⟨rfl, HG1.out, _, _, HLB1.out, HIN1.out⟩
set_option maxHeartbeats 1000000 in
theorem take_35 (t : Nd) (d : Int) (bl B : Nat) (A : Option Addr) (c : Nat) (K : List Nd) (w : World) (hkind : t.kind = 35) (hlb : LookBox w bl t d A K.length c) (hin : InL w B A c K) (hBb : B ≤ bl) :
    Calls Tryd.prog 39 #[.pointer (some ⟨bl, 0, none⟩)] w (TakePost (some K) t d bl B w) := by
  generalize hr : (some K) = r
  have HR := Lib.hid hr
  clear hr
  have HLB0 := Lib.hid hlb
  have HIN0 := Lib.hid hin
  obtain ⟨c0_0, _, c2_0, _, c4_0, _, _⟩ := hlb
  rw [hkind] at c0_0
  replace c0_0 : w.cell? ⟨bl, 0, none⟩ = some (.int .u8 35) := c0_0
  clear hin hkind
  go_enter Tryd.func39, Tryd.ntmps39
  go_wp2_with fail
  go_end0
  have hfin : r = some K := HR.out.symm
  rw [hfin]
  exact (show TakePost (some K) t d bl B w _ _ from ⟨rfl, ⟨rfl, rfl, rfl, Nat.le_refl _, fun _ _ _ => rfl⟩, _, _, HLB0.out, HIN0.out⟩)
end Go.Proofs.YtldedhfbpongmaaDoor
