import Derived.Test.YtldedhfbpongmaaDoorNodAc
set_option maxRecDepth 100000
namespace Go.Proofs.YtldedhfbpongmaaDoor
open Go.Instr Go.RowKit NodT
set_option linter.unusedVariables false
set_option linter.unusedSimpArgs false
set_option maxHeartbeats 1000000 in
theorem take_1 (t : Nd) (d : Int) (bl B : Nat) (A : Option Addr) (c : Nat) (K : List Nd) (w : World) (hkind : t.kind = 1) (hlb : LookBox w bl t d A K.length c) (hin : InL w B A c K) (hBb : B ≤ bl) :
    Calls Tryd.prog 40 #[.pointer (some ⟨bl, 0, none⟩)] w (TakePost ((if (K).all (isK [2, 4]) then some [] else none)) t d bl B w) := by
  generalize hr : ((if (K).all (isK [2, 4]) then some [] else none)) = r
  have HR := Lib.hid hr
  clear hr
  have hc0 : Calls Tryd.prog 47 #[.pointer (some ⟨bl, 0, none⟩), .func (.func 30) #[] #[.pointer (some ⟨w.heap.size + 1, 0, none⟩)]] (((w).alloc (.cells #[.int .u8 2, .int .u8 4] 22)).alloc (.cells #[.slice (some ⟨w.heap.size, 0, none⟩) 2 2] 53)) (TakePost (if (K).all (isK [2, 4]) then some [] else none) t d bl B w) := rest_lit t d bl B A c K w hlb hin hBb [2, 4] (by decide) (by decide)
  have HC0 := Lib.hid hc0
  have HLB0 := Lib.hid hlb
  have HIN0 := Lib.hid hin
  have hle0 := hin.len
  have hca0 := hin.cap
  unfold maxLen at hca0
  obtain ⟨c0_0, _, c2_0, _, c4_0, _, _⟩ := hlb
  rw [hkind] at c0_0
  replace c0_0 : w.cell? ⟨bl, 0, none⟩ = some (.int .u8 1) := c0_0
  clear hkind
  clear hc0 hin
  cases hs0 : (if (K).all (isK [2, 4]) then some [] else none) with
  | none =>
    have HS0 := Lib.hid hs0
    have hn0 := HC0.out
    rw [hs0] at hn0
    have HN0 := Lib.hid hn0
    clear hs0 hn0 HC0
    go_enter Tryd.func40, Tryd.ntmps40
    go_wp2_with (first | (go_at_call 49; refine (types_any _).mono ?_; rintro e w' ⟨rfl, rfl⟩) | (go_at_call 54; refine (blocks_any _).mono ?_; rintro e w' ⟨rfl, rfl⟩) | (go_at_call 52; refine (calls_any _).mono ?_; rintro e w' ⟨rfl, rfl⟩) | (go_at_call 36; refine (statements_any _).mono ?_; rintro e w' ⟨rfl, rfl⟩) | (go_at_call 38; refine (expressions_any _).mono ?_; rintro e w' ⟨rfl, rfl⟩) | (go_at_call 24; refine (of_any _ _ _ _ _).mono ?_; rintro e w' ⟨rfl, rfl⟩))
    refine HN0.out.mono ?_
    rintro e w1 ⟨rfl, hg0⟩
    have HG1 := Lib.hid hg0
    clear hg0
    go_wp2_with fail
    refine ⟨rfl, ?_⟩
    have hfin : r = none := by rw [← HR.out]; simp only [Option.bind_some, Option.bind_none, HS0.out]
    rw [hfin]
    exact ⟨rfl, HG1.out⟩
  | some K1 =>
    have HS0 := Lib.hid hs0
    have hn0 := HC0.out
    rw [hs0] at hn0
    have HN0 := Lib.hid hn0
    clear hs0 hn0 HC0
    go_enter Tryd.func40, Tryd.ntmps40
    go_wp2_with (first | (go_at_call 49; refine (types_any _).mono ?_; rintro e w' ⟨rfl, rfl⟩) | (go_at_call 54; refine (blocks_any _).mono ?_; rintro e w' ⟨rfl, rfl⟩) | (go_at_call 52; refine (calls_any _).mono ?_; rintro e w' ⟨rfl, rfl⟩) | (go_at_call 36; refine (statements_any _).mono ?_; rintro e w' ⟨rfl, rfl⟩) | (go_at_call 38; refine (expressions_any _).mono ?_; rintro e w' ⟨rfl, rfl⟩) | (go_at_call 24; refine (of_any _ _ _ _ _).mono ?_; rintro e w' ⟨rfl, rfl⟩))
    refine HN0.out.mono ?_
    rintro e w1 ⟨rfl, hg0, A1, c1, hl1, hi1⟩
    have HG1 := Lib.hid hg0
    clear hg0
    have HLB1 := Lib.hid hl1
    have HIN1 := Lib.hid hi1
    clear hl1 hi1
    go_wp2_with fail
    go_end0
    have hfin : r = some K1 := by rw [← HR.out]; simp only [Option.bind_some, HS0.out]
    rw [hfin]
    exact ⟨rfl, HG1.out, _, _, HLB1.out, HIN1.out⟩
set_option maxHeartbeats 1000000 in
theorem take_2 (t : Nd) (d : Int) (bl B : Nat) (A : Option Addr) (c : Nat) (K : List Nd) (w : World) (hkind : t.kind = 2) (hlb : LookBox w bl t d A K.length c) (hin : InL w B A c K) (hBb : B ≤ bl) :
    Calls Tryd.prog 40 #[.pointer (some ⟨bl, 0, none⟩)] w (TakePost ((if (K).all (isK [3]) then some [] else none)) t d bl B w) := by
  generalize hr : ((if (K).all (isK [3]) then some [] else none)) = r
  have HR := Lib.hid hr
  clear hr
  have hc0 : Calls Tryd.prog 47 #[.pointer (some ⟨bl, 0, none⟩), .func (.func 30) #[] #[.pointer (some ⟨w.heap.size + 1, 0, none⟩)]] (((w).alloc (.cells #[.int .u8 3] 22)).alloc (.cells #[.slice (some ⟨w.heap.size, 0, none⟩) 1 1] 53)) (TakePost (if (K).all (isK [3]) then some [] else none) t d bl B w) := rest_lit t d bl B A c K w hlb hin hBb [3] (by decide) (by decide)
  have HC0 := Lib.hid hc0
  have HLB0 := Lib.hid hlb
  have HIN0 := Lib.hid hin
  have hle0 := hin.len
  have hca0 := hin.cap
  unfold maxLen at hca0
  obtain ⟨c0_0, _, c2_0, _, c4_0, _, _⟩ := hlb
  rw [hkind] at c0_0
  replace c0_0 : w.cell? ⟨bl, 0, none⟩ = some (.int .u8 2) := c0_0
  clear hkind
  clear hc0 hin
  cases hs0 : (if (K).all (isK [3]) then some [] else none) with
  | none =>
    have HS0 := Lib.hid hs0
    have hn0 := HC0.out
    rw [hs0] at hn0
    have HN0 := Lib.hid hn0
    clear hs0 hn0 HC0
    go_enter Tryd.func40, Tryd.ntmps40
    go_wp2_with (first | (go_at_call 49; refine (types_any _).mono ?_; rintro e w' ⟨rfl, rfl⟩) | (go_at_call 54; refine (blocks_any _).mono ?_; rintro e w' ⟨rfl, rfl⟩) | (go_at_call 52; refine (calls_any _).mono ?_; rintro e w' ⟨rfl, rfl⟩) | (go_at_call 36; refine (statements_any _).mono ?_; rintro e w' ⟨rfl, rfl⟩) | (go_at_call 38; refine (expressions_any _).mono ?_; rintro e w' ⟨rfl, rfl⟩) | (go_at_call 24; refine (of_any _ _ _ _ _).mono ?_; rintro e w' ⟨rfl, rfl⟩))
    refine HN0.out.mono ?_
    rintro e w1 ⟨rfl, hg0⟩
    have HG1 := Lib.hid hg0
    clear hg0
    go_wp2_with fail
    refine ⟨rfl, ?_⟩
    have hfin : r = none := by rw [← HR.out]; simp only [Option.bind_some, Option.bind_none, HS0.out]
    rw [hfin]
    exact ⟨rfl, HG1.out⟩
  | some K1 =>
    have HS0 := Lib.hid hs0
    have hn0 := HC0.out
    rw [hs0] at hn0
    have HN0 := Lib.hid hn0
    clear hs0 hn0 HC0
    go_enter Tryd.func40, Tryd.ntmps40
    go_wp2_with (first | (go_at_call 49; refine (types_any _).mono ?_; rintro e w' ⟨rfl, rfl⟩) | (go_at_call 54; refine (blocks_any _).mono ?_; rintro e w' ⟨rfl, rfl⟩) | (go_at_call 52; refine (calls_any _).mono ?_; rintro e w' ⟨rfl, rfl⟩) | (go_at_call 36; refine (statements_any _).mono ?_; rintro e w' ⟨rfl, rfl⟩) | (go_at_call 38; refine (expressions_any _).mono ?_; rintro e w' ⟨rfl, rfl⟩) | (go_at_call 24; refine (of_any _ _ _ _ _).mono ?_; rintro e w' ⟨rfl, rfl⟩))
    refine HN0.out.mono ?_
    rintro e w1 ⟨rfl, hg0, A1, c1, hl1, hi1⟩
    have HG1 := Lib.hid hg0
    clear hg0
    have HLB1 := Lib.hid hl1
    have HIN1 := Lib.hid hi1
    clear hl1 hi1
    go_wp2_with fail
    go_end0
    have hfin : r = some K1 := by rw [← HR.out]; simp only [Option.bind_some, HS0.out]
    rw [hfin]
    exact ⟨rfl, HG1.out, _, _, HLB1.out, HIN1.out⟩
set_option maxHeartbeats 1000000 in
theorem take_3 (t : Nd) (d : Int) (bl B : Nat) (A : Option Addr) (c : Nat) (K : List Nd) (w : World) (hkind : t.kind = 3) (hlb : LookBox w bl t d A K.length c) (hin : InL w B A c K) (hBb : B ≤ bl) :
    Calls Tryd.prog 40 #[.pointer (some ⟨bl, 0, none⟩)] w (TakePost (stepQ [isK [7, 8]] K) t d bl B w) := by
  generalize hr : (stepQ [isK [7, 8]] K) = r
  have HR := Lib.hid hr
  clear hr
  have hc0 : Calls Tryd.prog 48 #[.pointer (some ⟨bl, 0, none⟩), .slice (some ⟨w.heap.size + 1 + 1, 0, none⟩) 1 1] ((((w).alloc (.cells #[.int .u8 7, .int .u8 8] 22)).alloc (.cells #[.slice (some ⟨w.heap.size, 0, none⟩) 2 2] 53)).alloc (.cells #[.func (.func 30) #[] #[.pointer (some ⟨w.heap.size + 1, 0, none⟩)]] 48)) (TakePost (stepQ [isK [7, 8]] K) t d bl B w) := next_lit1 t d bl B A c K w hlb hin hBb [7, 8] (by decide) (by decide)
  have HC0 := Lib.hid hc0
  have HLB0 := Lib.hid hlb
  have HIN0 := Lib.hid hin
  have hle0 := hin.len
  have hca0 := hin.cap
  unfold maxLen at hca0
  obtain ⟨c0_0, _, c2_0, _, c4_0, _, _⟩ := hlb
  rw [hkind] at c0_0
  replace c0_0 : w.cell? ⟨bl, 0, none⟩ = some (.int .u8 3) := c0_0
  clear hkind
  clear hc0 hin
  cases hs0 : stepQ [isK [7, 8]] K with
  | none =>
    have HS0 := Lib.hid hs0
    have hn0 := HC0.out
    rw [hs0] at hn0
    have HN0 := Lib.hid hn0
    clear hs0 hn0 HC0
    go_enter Tryd.func40, Tryd.ntmps40
    go_wp2_with (first | (go_at_call 49; refine (types_any _).mono ?_; rintro e w' ⟨rfl, rfl⟩) | (go_at_call 54; refine (blocks_any _).mono ?_; rintro e w' ⟨rfl, rfl⟩) | (go_at_call 52; refine (calls_any _).mono ?_; rintro e w' ⟨rfl, rfl⟩) | (go_at_call 36; refine (statements_any _).mono ?_; rintro e w' ⟨rfl, rfl⟩) | (go_at_call 38; refine (expressions_any _).mono ?_; rintro e w' ⟨rfl, rfl⟩) | (go_at_call 24; refine (of_any _ _ _ _ _).mono ?_; rintro e w' ⟨rfl, rfl⟩))
    refine HN0.out.mono ?_
    rintro e w1 ⟨rfl, hg0⟩
    have HG1 := Lib.hid hg0
    clear hg0
    go_wp2_with fail
    refine ⟨rfl, ?_⟩
    have hfin : r = none := by rw [← HR.out]; simp only [Option.bind_some, Option.bind_none, HS0.out]
    rw [hfin]
    exact ⟨rfl, HG1.out⟩
  | some K1 =>
    have HS0 := Lib.hid hs0
    have hn0 := HC0.out
    rw [hs0] at hn0
    have HN0 := Lib.hid hn0
    clear hs0 hn0 HC0
    go_enter Tryd.func40, Tryd.ntmps40
    go_wp2_with (first | (go_at_call 49; refine (types_any _).mono ?_; rintro e w' ⟨rfl, rfl⟩) | (go_at_call 54; refine (blocks_any _).mono ?_; rintro e w' ⟨rfl, rfl⟩) | (go_at_call 52; refine (calls_any _).mono ?_; rintro e w' ⟨rfl, rfl⟩) | (go_at_call 36; refine (statements_any _).mono ?_; rintro e w' ⟨rfl, rfl⟩) | (go_at_call 38; refine (expressions_any _).mono ?_; rintro e w' ⟨rfl, rfl⟩) | (go_at_call 24; refine (of_any _ _ _ _ _).mono ?_; rintro e w' ⟨rfl, rfl⟩))
    refine HN0.out.mono ?_
    rintro e w1 ⟨rfl, hg0, A1, c1, hl1, hi1⟩
    have HG1 := Lib.hid hg0
    clear hg0
    have HLB1 := Lib.hid hl1
    have HIN1 := Lib.hid hi1
    clear hl1 hi1
    go_wp2_with fail
    go_end0
    have hfin : r = some K1 := by rw [← HR.out]; simp only [Option.bind_some, HS0.out]
    rw [hfin]
    exact ⟨rfl, HG1.out, _, _, HLB1.out, HIN1.out⟩
set_option maxHeartbeats 1000000 in
theorem take_4 (t : Nd) (d : Int) (bl B : Nat) (A : Option Addr) (c : Nat) (K : List Nd) (w : World) (hkind : t.kind = 4) (hlb : LookBox w bl t d A K.length c) (hin : InL w B A c K) (hBb : B ≤ bl) :
    Calls Tryd.prog 40 #[.pointer (some ⟨bl, 0, none⟩)] w (TakePost (stepQ [isK [5], isK [6], isK [9]] K) t d bl B w) := by
  generalize hr : (stepQ [isK [5], isK [6], isK [9]] K) = r
  have HR := Lib.hid hr
  clear hr
  have hc0 : Calls Tryd.prog 48 #[.pointer (some ⟨bl, 0, none⟩), .slice (some ⟨w.heap.size + 1 + 1 + 1 + 1 + 1 + 1, 0, none⟩) 3 3] ((((((((w).alloc (.cells #[.int .u8 5] 22)).alloc (.cells #[.slice (some ⟨w.heap.size, 0, none⟩) 1 1] 53)).alloc (.cells #[.int .u8 6] 22)).alloc (.cells #[.slice (some ⟨w.heap.size + 1 + 1, 0, none⟩) 1 1] 53)).alloc (.cells #[.int .u8 9] 22)).alloc (.cells #[.slice (some ⟨w.heap.size + 1 + 1 + 1 + 1, 0, none⟩) 1 1] 53)).alloc (.cells #[.func (.func 30) #[] #[.pointer (some ⟨w.heap.size + 1, 0, none⟩)], .func (.func 30) #[] #[.pointer (some ⟨w.heap.size + 1 + 1 + 1, 0, none⟩)], .func (.func 30) #[] #[.pointer (some ⟨w.heap.size + 1 + 1 + 1 + 1 + 1, 0, none⟩)]] 48)) (TakePost (stepQ [isK [5], isK [6], isK [9]] K) t d bl B w) := next_lit3 t d bl B A c K w hlb hin hBb [5] [6] [9] (by decide) (by decide) (by decide) (by decide) (by decide) (by decide)
  have HC0 := Lib.hid hc0
  have HLB0 := Lib.hid hlb
  have HIN0 := Lib.hid hin
  have hle0 := hin.len
  have hca0 := hin.cap
  unfold maxLen at hca0
  obtain ⟨c0_0, _, c2_0, _, c4_0, _, _⟩ := hlb
  rw [hkind] at c0_0
  replace c0_0 : w.cell? ⟨bl, 0, none⟩ = some (.int .u8 4) := c0_0
  clear hkind
  clear hc0 hin
  cases hs0 : stepQ [isK [5], isK [6], isK [9]] K with
  | none =>
    have HS0 := Lib.hid hs0
    have hn0 := HC0.out
    rw [hs0] at hn0
    have HN0 := Lib.hid hn0
    clear hs0 hn0 HC0
    go_enter Tryd.func40, Tryd.ntmps40
    go_wp2_with (first | (go_at_call 49; refine (types_any _).mono ?_; rintro e w' ⟨rfl, rfl⟩) | (go_at_call 54; refine (blocks_any _).mono ?_; rintro e w' ⟨rfl, rfl⟩) | (go_at_call 52; refine (calls_any _).mono ?_; rintro e w' ⟨rfl, rfl⟩) | (go_at_call 36; refine (statements_any _).mono ?_; rintro e w' ⟨rfl, rfl⟩) | (go_at_call 38; refine (expressions_any _).mono ?_; rintro e w' ⟨rfl, rfl⟩) | (go_at_call 24; refine (of_any _ _ _ _ _).mono ?_; rintro e w' ⟨rfl, rfl⟩))
    refine HN0.out.mono ?_
    rintro e w1 ⟨rfl, hg0⟩
    have HG1 := Lib.hid hg0
    clear hg0
    go_wp2_with fail
    refine ⟨rfl, ?_⟩
    have hfin : r = none := by rw [← HR.out]; simp only [Option.bind_some, Option.bind_none, HS0.out]
    rw [hfin]
    exact ⟨rfl, HG1.out⟩
  | some K1 =>
    have HS0 := Lib.hid hs0
    have hn0 := HC0.out
    rw [hs0] at hn0
    have HN0 := Lib.hid hn0
    clear hs0 hn0 HC0
    go_enter Tryd.func40, Tryd.ntmps40
    go_wp2_with (first | (go_at_call 49; refine (types_any _).mono ?_; rintro e w' ⟨rfl, rfl⟩) | (go_at_call 54; refine (blocks_any _).mono ?_; rintro e w' ⟨rfl, rfl⟩) | (go_at_call 52; refine (calls_any _).mono ?_; rintro e w' ⟨rfl, rfl⟩) | (go_at_call 36; refine (statements_any _).mono ?_; rintro e w' ⟨rfl, rfl⟩) | (go_at_call 38; refine (expressions_any _).mono ?_; rintro e w' ⟨rfl, rfl⟩) | (go_at_call 24; refine (of_any _ _ _ _ _).mono ?_; rintro e w' ⟨rfl, rfl⟩))
    refine HN0.out.mono ?_
    rintro e w1 ⟨rfl, hg0, A1, c1, hl1, hi1⟩
    have HG1 := Lib.hid hg0
    clear hg0
    have HLB1 := Lib.hid hl1
    have HIN1 := Lib.hid hi1
    clear hl1 hi1
    go_wp2_with fail
    go_end0
    have hfin : r = some K1 := by rw [← HR.out]; simp only [Option.bind_some, HS0.out]
    rw [hfin]
    exact ⟨rfl, HG1.out, _, _, HLB1.out, HIN1.out⟩
set_option maxHeartbeats 1000000 in
theorem take_5 (t : Nd) (d : Int) (bl B : Nat) (A : Option Addr) (c : Nat) (K : List Nd) (w : World) (hkind : t.kind = 5) (hlb : LookBox w bl t d A K.length c) (hin : InL w B A c K) (hBb : B ≤ bl) :
    Calls Tryd.prog 40 #[.pointer (some ⟨bl, 0, none⟩)] w (TakePost ((if (K).all (isK [3]) then some [] else none)) t d bl B w) := by
  generalize hr : ((if (K).all (isK [3]) then some [] else none)) = r
  have HR := Lib.hid hr
  clear hr
  have hc0 : Calls Tryd.prog 47 #[.pointer (some ⟨bl, 0, none⟩), .func (.func 30) #[] #[.pointer (some ⟨w.heap.size + 1, 0, none⟩)]] (((w).alloc (.cells #[.int .u8 3] 22)).alloc (.cells #[.slice (some ⟨w.heap.size, 0, none⟩) 1 1] 53)) (TakePost (if (K).all (isK [3]) then some [] else none) t d bl B w) := rest_lit t d bl B A c K w hlb hin hBb [3] (by decide) (by decide)
  have HC0 := Lib.hid hc0
  have HLB0 := Lib.hid hlb
  have HIN0 := Lib.hid hin
  have hle0 := hin.len
  have hca0 := hin.cap
  unfold maxLen at hca0
  obtain ⟨c0_0, _, c2_0, _, c4_0, _, _⟩ := hlb
  rw [hkind] at c0_0
  replace c0_0 : w.cell? ⟨bl, 0, none⟩ = some (.int .u8 5) := c0_0
  clear hkind
  clear hc0 hin
  cases hs0 : (if (K).all (isK [3]) then some [] else none) with
  | none =>
    have HS0 := Lib.hid hs0
    have hn0 := HC0.out
    rw [hs0] at hn0
    have HN0 := Lib.hid hn0
    clear hs0 hn0 HC0
    go_enter Tryd.func40, Tryd.ntmps40
    go_wp2_with (first | (go_at_call 49; refine (types_any _).mono ?_; rintro e w' ⟨rfl, rfl⟩) | (go_at_call 54; refine (blocks_any _).mono ?_; rintro e w' ⟨rfl, rfl⟩) | (go_at_call 52; refine (calls_any _).mono ?_; rintro e w' ⟨rfl, rfl⟩) | (go_at_call 36; refine (statements_any _).mono ?_; rintro e w' ⟨rfl, rfl⟩) | (go_at_call 38; refine (expressions_any _).mono ?_; rintro e w' ⟨rfl, rfl⟩) | (go_at_call 24; refine (of_any _ _ _ _ _).mono ?_; rintro e w' ⟨rfl, rfl⟩))
    refine HN0.out.mono ?_
    rintro e w1 ⟨rfl, hg0⟩
    have HG1 := Lib.hid hg0
    clear hg0
    go_wp2_with fail
    refine ⟨rfl, ?_⟩
    have hfin : r = none := by rw [← HR.out]; simp only [Option.bind_some, Option.bind_none, HS0.out]
    rw [hfin]
    exact ⟨rfl, HG1.out⟩
  | some K1 =>
    have HS0 := Lib.hid hs0
    have hn0 := HC0.out
    rw [hs0] at hn0
    have HN0 := Lib.hid hn0
    clear hs0 hn0 HC0
    go_enter Tryd.func40, Tryd.ntmps40
    go_wp2_with (first | (go_at_call 49; refine (types_any _).mono ?_; rintro e w' ⟨rfl, rfl⟩) | (go_at_call 54; refine (blocks_any _).mono ?_; rintro e w' ⟨rfl, rfl⟩) | (go_at_call 52; refine (calls_any _).mono ?_; rintro e w' ⟨rfl, rfl⟩) | (go_at_call 36; refine (statements_any _).mono ?_; rintro e w' ⟨rfl, rfl⟩) | (go_at_call 38; refine (expressions_any _).mono ?_; rintro e w' ⟨rfl, rfl⟩) | (go_at_call 24; refine (of_any _ _ _ _ _).mono ?_; rintro e w' ⟨rfl, rfl⟩))
    refine HN0.out.mono ?_
    rintro e w1 ⟨rfl, hg0, A1, c1, hl1, hi1⟩
    have HG1 := Lib.hid hg0
    clear hg0
    have HLB1 := Lib.hid hl1
    have HIN1 := Lib.hid hi1
    clear hl1 hi1
    go_wp2_with fail
    go_end0
    have hfin : r = some K1 := by rw [← HR.out]; simp only [Option.bind_some, HS0.out]
    rw [hfin]
    exact ⟨rfl, HG1.out, _, _, HLB1.out, HIN1.out⟩
set_option maxHeartbeats 1000000 in
theorem take_6 (t : Nd) (d : Int) (bl B : Nat) (A : Option Addr) (c : Nat) (K : List Nd) (w : World) (hkind : t.kind = 6) (hlb : LookBox w bl t d A K.length c) (hin : InL w B A c K) (hBb : B ≤ bl) :
    Calls Tryd.prog 40 #[.pointer (some ⟨bl, 0, none⟩)] w (TakePost ((if (K).all (isK [7, 8]) then some [] else none)) t d bl B w) := by
  generalize hr : ((if (K).all (isK [7, 8]) then some [] else none)) = r
  have HR := Lib.hid hr
  clear hr
  have hc0 : Calls Tryd.prog 47 #[.pointer (some ⟨bl, 0, none⟩), .func (.func 30) #[] #[.pointer (some ⟨w.heap.size + 1, 0, none⟩)]] (((w).alloc (.cells #[.int .u8 7, .int .u8 8] 22)).alloc (.cells #[.slice (some ⟨w.heap.size, 0, none⟩) 2 2] 53)) (TakePost (if (K).all (isK [7, 8]) then some [] else none) t d bl B w) := rest_lit t d bl B A c K w hlb hin hBb [7, 8] (by decide) (by decide)
  have HC0 := Lib.hid hc0
  have HLB0 := Lib.hid hlb
  have HIN0 := Lib.hid hin
  have hle0 := hin.len
  have hca0 := hin.cap
  unfold maxLen at hca0
  obtain ⟨c0_0, _, c2_0, _, c4_0, _, _⟩ := hlb
  rw [hkind] at c0_0
  replace c0_0 : w.cell? ⟨bl, 0, none⟩ = some (.int .u8 6) := c0_0
  clear hkind
  clear hc0 hin
  cases hs0 : (if (K).all (isK [7, 8]) then some [] else none) with
  | none =>
    have HS0 := Lib.hid hs0
    have hn0 := HC0.out
    rw [hs0] at hn0
    have HN0 := Lib.hid hn0
    clear hs0 hn0 HC0
    go_enter Tryd.func40, Tryd.ntmps40
    go_wp2_with (first | (go_at_call 49; refine (types_any _).mono ?_; rintro e w' ⟨rfl, rfl⟩) | (go_at_call 54; refine (blocks_any _).mono ?_; rintro e w' ⟨rfl, rfl⟩) | (go_at_call 52; refine (calls_any _).mono ?_; rintro e w' ⟨rfl, rfl⟩) | (go_at_call 36; refine (statements_any _).mono ?_; rintro e w' ⟨rfl, rfl⟩) | (go_at_call 38; refine (expressions_any _).mono ?_; rintro e w' ⟨rfl, rfl⟩) | (go_at_call 24; refine (of_any _ _ _ _ _).mono ?_; rintro e w' ⟨rfl, rfl⟩))
    refine HN0.out.mono ?_
    rintro e w1 ⟨rfl, hg0⟩
    have HG1 := Lib.hid hg0
    clear hg0
    go_wp2_with fail
    refine ⟨rfl, ?_⟩
    have hfin : r = none := by rw [← HR.out]; simp only [Option.bind_some, Option.bind_none, HS0.out]
    rw [hfin]
    exact ⟨rfl, HG1.out⟩
  | some K1 =>
    have HS0 := Lib.hid hs0
    have hn0 := HC0.out
    rw [hs0] at hn0
    have HN0 := Lib.hid hn0
    clear hs0 hn0 HC0
    go_enter Tryd.func40, Tryd.ntmps40
    go_wp2_with (first | (go_at_call 49; refine (types_any _).mono ?_; rintro e w' ⟨rfl, rfl⟩) | (go_at_call 54; refine (blocks_any _).mono ?_; rintro e w' ⟨rfl, rfl⟩) | (go_at_call 52; refine (calls_any _).mono ?_; rintro e w' ⟨rfl, rfl⟩) | (go_at_call 36; refine (statements_any _).mono ?_; rintro e w' ⟨rfl, rfl⟩) | (go_at_call 38; refine (expressions_any _).mono ?_; rintro e w' ⟨rfl, rfl⟩) | (go_at_call 24; refine (of_any _ _ _ _ _).mono ?_; rintro e w' ⟨rfl, rfl⟩))
    refine HN0.out.mono ?_
    rintro e w1 ⟨rfl, hg0, A1, c1, hl1, hi1⟩
    have HG1 := Lib.hid hg0
    clear hg0
    have HLB1 := Lib.hid hl1
    have HIN1 := Lib.hid hi1
    clear hl1 hi1
    go_wp2_with fail
    go_end0
    have hfin : r = some K1 := by rw [← HR.out]; simp only [Option.bind_some, HS0.out]
    rw [hfin]
    exact ⟨rfl, HG1.out, _, _, HLB1.out, HIN1.out⟩
set_option maxHeartbeats 1000000 in
theorem take_8 (t : Nd) (d : Int) (bl B : Nat) (A : Option Addr) (c : Nat) (K : List Nd) (w : World) (hkind : t.kind = 8) (hlb : LookBox w bl t d A K.length c) (hin : InL w B A c K) (hBb : B ≤ bl) :
    Calls Tryd.prog 40 #[.pointer (some ⟨bl, 0, none⟩)] w (TakePost (stepQ [isK [7, 8]] K) t d bl B w) := by
  generalize hr : (stepQ [isK [7, 8]] K) = r
  have HR := Lib.hid hr
  clear hr
  have hc0 : Calls Tryd.prog 48 #[.pointer (some ⟨bl, 0, none⟩), .slice (some ⟨w.heap.size + 1 + 1, 0, none⟩) 1 1] ((((w).alloc (.cells #[.int .u8 7, .int .u8 8] 22)).alloc (.cells #[.slice (some ⟨w.heap.size, 0, none⟩) 2 2] 53)).alloc (.cells #[.func (.func 30) #[] #[.pointer (some ⟨w.heap.size + 1, 0, none⟩)]] 48)) (TakePost (stepQ [isK [7, 8]] K) t d bl B w) := next_lit1 t d bl B A c K w hlb hin hBb [7, 8] (by decide) (by decide)
  have HC0 := Lib.hid hc0
  have HLB0 := Lib.hid hlb
  have HIN0 := Lib.hid hin
  have hle0 := hin.len
  have hca0 := hin.cap
  unfold maxLen at hca0
  obtain ⟨c0_0, _, c2_0, _, c4_0, _, _⟩ := hlb
  rw [hkind] at c0_0
  replace c0_0 : w.cell? ⟨bl, 0, none⟩ = some (.int .u8 8) := c0_0
  clear hkind
  clear hc0 hin
  cases hs0 : stepQ [isK [7, 8]] K with
  | none =>
    have HS0 := Lib.hid hs0
    have hn0 := HC0.out
    rw [hs0] at hn0
    have HN0 := Lib.hid hn0
    clear hs0 hn0 HC0
    go_enter Tryd.func40, Tryd.ntmps40
    go_wp2_with (first | (go_at_call 49; refine (types_any _).mono ?_; rintro e w' ⟨rfl, rfl⟩) | (go_at_call 54; refine (blocks_any _).mono ?_; rintro e w' ⟨rfl, rfl⟩) | (go_at_call 52; refine (calls_any _).mono ?_; rintro e w' ⟨rfl, rfl⟩) | (go_at_call 36; refine (statements_any _).mono ?_; rintro e w' ⟨rfl, rfl⟩) | (go_at_call 38; refine (expressions_any _).mono ?_; rintro e w' ⟨rfl, rfl⟩) | (go_at_call 24; refine (of_any _ _ _ _ _).mono ?_; rintro e w' ⟨rfl, rfl⟩))
    refine HN0.out.mono ?_
    rintro e w1 ⟨rfl, hg0⟩
    have HG1 := Lib.hid hg0
    clear hg0
    go_wp2_with fail
    refine ⟨rfl, ?_⟩
    have hfin : r = none := by rw [← HR.out]; simp only [Option.bind_some, Option.bind_none, HS0.out]
    rw [hfin]
    exact ⟨rfl, HG1.out⟩
  | some K1 =>
    have HS0 := Lib.hid hs0
    have hn0 := HC0.out
    rw [hs0] at hn0
    have HN0 := Lib.hid hn0
    clear hs0 hn0 HC0
    go_enter Tryd.func40, Tryd.ntmps40
    go_wp2_with (first | (go_at_call 49; refine (types_any _).mono ?_; rintro e w' ⟨rfl, rfl⟩) | (go_at_call 54; refine (blocks_any _).mono ?_; rintro e w' ⟨rfl, rfl⟩) | (go_at_call 52; refine (calls_any _).mono ?_; rintro e w' ⟨rfl, rfl⟩) | (go_at_call 36; refine (statements_any _).mono ?_; rintro e w' ⟨rfl, rfl⟩) | (go_at_call 38; refine (expressions_any _).mono ?_; rintro e w' ⟨rfl, rfl⟩) | (go_at_call 24; refine (of_any _ _ _ _ _).mono ?_; rintro e w' ⟨rfl, rfl⟩))
    refine HN0.out.mono ?_
    rintro e w1 ⟨rfl, hg0, A1, c1, hl1, hi1⟩
    have HG1 := Lib.hid hg0
    clear hg0
    have HLB1 := Lib.hid hl1
    have HIN1 := Lib.hid hi1
    clear hl1 hi1
    go_wp2_with fail
    go_end0
    have hfin : r = some K1 := by rw [← HR.out]; simp only [Option.bind_some, HS0.out]
    rw [hfin]
    exact ⟨rfl, HG1.out, _, _, HLB1.out, HIN1.out⟩
set_option maxHeartbeats 1000000 in
theorem take_34 (t : Nd) (d : Int) (bl B : Nat) (A : Option Addr) (c : Nat) (K : List Nd) (w : World) (hkind : t.kind = 34) (hlb : LookBox w bl t d A K.length c) (hin : InL w B A c K) (hBb : B ≤ bl) :
    Calls Tryd.prog 40 #[.pointer (some ⟨bl, 0, none⟩)] w (TakePost (stepQ [isK [21, 22, 23, 24, 25, 26, 27, 28, 29, 30, 31, 32, 33, 35]] K) t d bl B w) := by
  generalize hr : (stepQ [isK [21, 22, 23, 24, 25, 26, 27, 28, 29, 30, 31, 32, 33, 35]] K) = r
  have HR := Lib.hid hr
  clear hr
  have hc0 : Calls Tryd.prog 48 #[.pointer (some ⟨bl, 0, none⟩), .slice (some ⟨w.heap.size + 1 + 1, 0, none⟩) 1 1] ((((w).alloc (.cells #[.int .u8 21, .int .u8 22, .int .u8 23, .int .u8 24, .int .u8 25, .int .u8 26, .int .u8 27, .int .u8 28, .int .u8 29, .int .u8 30, .int .u8 31, .int .u8 32, .int .u8 33, .int .u8 35] 22)).alloc (.cells #[.slice (some ⟨w.heap.size, 0, none⟩) 14 14] 53)).alloc (.cells #[.func (.func 30) #[] #[.pointer (some ⟨w.heap.size + 1, 0, none⟩)]] 48)) (TakePost (stepQ [isK [21, 22, 23, 24, 25, 26, 27, 28, 29, 30, 31, 32, 33, 35]] K) t d bl B w) := next_lit1 t d bl B A c K w hlb hin hBb [21, 22, 23, 24, 25, 26, 27, 28, 29, 30, 31, 32, 33, 35] (by decide) (by decide)
  have HC0 := Lib.hid hc0
  have HLB0 := Lib.hid hlb
  have HIN0 := Lib.hid hin
  have hle0 := hin.len
  have hca0 := hin.cap
  unfold maxLen at hca0
  obtain ⟨c0_0, _, c2_0, _, c4_0, _, _⟩ := hlb
  rw [hkind] at c0_0
  replace c0_0 : w.cell? ⟨bl, 0, none⟩ = some (.int .u8 34) := c0_0
  clear hkind
  clear hc0 hin
  cases hs0 : stepQ [isK [21, 22, 23, 24, 25, 26, 27, 28, 29, 30, 31, 32, 33, 35]] K with
  | none =>
    have HS0 := Lib.hid hs0
    have hn0 := HC0.out
    rw [hs0] at hn0
    have HN0 := Lib.hid hn0
    clear hs0 hn0 HC0
    go_enter Tryd.func40, Tryd.ntmps40
    go_wp2_with (first | (go_at_call 49; refine (types_any _).mono ?_; rintro e w' ⟨rfl, rfl⟩) | (go_at_call 54; refine (blocks_any _).mono ?_; rintro e w' ⟨rfl, rfl⟩) | (go_at_call 52; refine (calls_any _).mono ?_; rintro e w' ⟨rfl, rfl⟩) | (go_at_call 36; refine (statements_any _).mono ?_; rintro e w' ⟨rfl, rfl⟩) | (go_at_call 38; refine (expressions_any _).mono ?_; rintro e w' ⟨rfl, rfl⟩) | (go_at_call 24; refine (of_any _ _ _ _ _).mono ?_; rintro e w' ⟨rfl, rfl⟩))
    refine HN0.out.mono ?_
    rintro e w1 ⟨rfl, hg0⟩
    have HG1 := Lib.hid hg0
    clear hg0
    go_wp2_with fail
    refine ⟨rfl, ?_⟩
    have hfin : r = none := by rw [← HR.out]; simp only [Option.bind_some, Option.bind_none, HS0.out]
    rw [hfin]
    exact ⟨rfl, HG1.out⟩
  | some K1 =>
    have HS0 := Lib.hid hs0
    have hn0 := HC0.out
    rw [hs0] at hn0
    have HN0 := Lib.hid hn0
    clear hs0 hn0 HC0
    go_enter Tryd.func40, Tryd.ntmps40
    go_wp2_with (first | (go_at_call 49; refine (types_any _).mono ?_; rintro e w' ⟨rfl, rfl⟩) | (go_at_call 54; refine (blocks_any _).mono ?_; rintro e w' ⟨rfl, rfl⟩) | (go_at_call 52; refine (calls_any _).mono ?_; rintro e w' ⟨rfl, rfl⟩) | (go_at_call 36; refine (statements_any _).mono ?_; rintro e w' ⟨rfl, rfl⟩) | (go_at_call 38; refine (expressions_any _).mono ?_; rintro e w' ⟨rfl, rfl⟩) | (go_at_call 24; refine (of_any _ _ _ _ _).mono ?_; rintro e w' ⟨rfl, rfl⟩))
    refine HN0.out.mono ?_
    rintro e w1 ⟨rfl, hg0, A1, c1, hl1, hi1⟩
    have HG1 := Lib.hid hg0
    clear hg0
    have HLB1 := Lib.hid hl1
    have HIN1 := Lib.hid hi1
    clear hl1 hi1
    go_wp2_with fail
    go_end0
    have hfin : r = some K1 := by rw [← HR.out]; simp only [Option.bind_some, HS0.out]
    rw [hfin]
    exact ⟨rfl, HG1.out, _, _, HLB1.out, HIN1.out⟩
end Go.Proofs.YtldedhfbpongmaaDoor
