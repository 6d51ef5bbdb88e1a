import Derived.Test.YtldedhfbpongmaaDoorNodAd
import Derived.Test.YtldedhfbpongmaaDoorNodAe
import Derived.Test.YtldedhfbpongmaaDoorNodAf
import Derived.Test.YtldedhfbpongmaaDoorNodAg
import Derived.Test.YtldedhfbpongmaaDoorNodAh
import Derived.Test.YtldedhfbpongmaaDoorNodAi
import Derived.Test.YtldedhfbpongmaaDoorNodAj
set_option maxRecDepth 100000
namespace NodT
open Go
/-- What a node of a kind, with a number, takes of its kids: those that are left, or nothing, if one may not be. -/
def eats : Nat → Int → List Nd → Option (List Nd)
  | 1, _, K => (if (K).all (isK [2, 4]) then some [] else none)
  | 2, _, K => (if (K).all (isK [3]) then some [] else none)
  | 3, _, K => stepQ [isK [7, 8]] K
  | 4, _, K => stepQ [isK [5], isK [6], isK [9]] K
  | 5, _, K => (if (K).all (isK [3]) then some [] else none)
  | 6, _, K => (if (K).all (isK [7, 8]) then some [] else none)
  | 8, _, K => stepQ [isK [7, 8]] K
  | 9, _, K => (if (K).all (isK [9, 10, 11, 12, 13, 14, 15, 17, 18, 19, 20]) then some [] else none)
  | 10, _, K => (stepQ [isK [7, 8]] K).bind fun K' => (if K' = [] then some [] else stepQ [isK [21, 22, 23, 24, 25, 26, 27, 28, 29, 30, 31, 32, 33, 35]] K')
  | 11, n, K => if 1 < n then (stepQ (List.replicate n.toNat (isK [25])) K).bind fun K' => stepQ [isK [28]] K' else (stepQ (List.replicate n.toNat (isK [25])) K).bind fun K' => stepQ [isK [21, 22, 23, 24, 25, 26, 27, 28, 29, 30, 31, 32, 33, 35]] K'
  | 12, n, K => if 1 < n then (stepQ (List.replicate n.toNat placeB) K).bind fun K' => (if K'.length = 1 then stepQ [isK [28]] K' else stepQ (List.replicate n.toNat (isK [21, 22, 23, 24, 25, 26, 27, 28, 29, 30, 31, 32, 33, 35])) K') else (stepQ (List.replicate n.toNat placeB) K).bind fun K' => stepQ (List.replicate n.toNat (isK [21, 22, 23, 24, 25, 26, 27, 28, 29, 30, 31, 32, 33, 35])) K'
  | 13, _, K => (stepQ [isK [21, 22, 23, 24, 25, 26, 27, 28, 29, 30, 31, 32, 33, 35], isK [9]] K).bind fun K' => (if K' = [] then some [] else stepQ [isK [9, 13]] K')
  | 14, _, K => if 1 < K.length then (stepQ [isK [21, 22, 23, 24, 25, 26, 27, 28, 29, 30, 31, 32, 33, 35]] K).bind fun K' => stepQ [isK [9]] K' else stepQ [isK [9]] K
  | 15, _, K => (stepQ [isK [21, 22, 23, 24, 25, 26, 27, 28, 29, 30, 31, 32, 33, 35]] K).bind fun K' => (if (K').all (isK [16]) then some [] else none)
  | 16, _, K => (stepQ (List.replicate ((K.length : Int) - 1).toNat (isK [21, 22, 23, 24, 25, 26, 27, 28, 29, 30, 31, 32, 33, 35])) K).bind fun K' => stepQ [isK [9]] K'
  | 17, _, K => (if (K).all (isK [21, 22, 23, 24, 25, 26, 27, 28, 29, 30, 31, 32, 33, 35]) then some [] else none)
  | 18, _, K => some K
  | 19, _, K => some K
  | 20, _, K => stepQ [isK [28]] K
  | 21, _, K => some K
  | 22, _, K => some K
  | 23, _, K => some K
  | 24, _, K => some K
  | 25, _, K => some K
  | 26, _, K => stepQ [isK [21, 22, 23, 24, 25, 26, 27, 28, 29, 30, 31, 32, 33, 35]] K
  | 27, _, K => stepQ [isK [21, 22, 23, 24, 25, 26, 27, 28, 29, 30, 31, 32, 33, 35], isK [21, 22, 23, 24, 25, 26, 27, 28, 29, 30, 31, 32, 33, 35]] K
  | 28, _, K => (if (K).all (isK [21, 22, 23, 24, 25, 26, 27, 28, 29, 30, 31, 32, 33, 35]) then some [] else none)
  | 29, _, K => stepQ [isK [21, 22, 23, 24, 25, 26, 27, 28, 29, 30, 31, 32, 33, 35], isK [21, 22, 23, 24, 25, 26, 27, 28, 29, 30, 31, 32, 33, 35]] K
  | 30, _, K => stepQ [isK [21, 22, 23, 24, 25, 26, 27, 28, 29, 30, 31, 32, 33, 35], isK [21, 22, 23, 24, 25, 26, 27, 28, 29, 30, 31, 32, 33, 35]] K
  | 31, _, K => stepQ [isK [21, 22, 23, 24, 25, 26, 27, 28, 29, 30, 31, 32, 33, 35]] K
  | 32, _, K => (stepQ [isK [8]] K).bind fun K' => (if (K').all (isK [21, 22, 23, 24, 25, 26, 27, 28, 29, 30, 31, 32, 33, 35]) then some [] else none)
  | 33, _, K => (if (K).all (isK [34]) then some [] else none)
  | 34, _, K => stepQ [isK [21, 22, 23, 24, 25, 26, 27, 28, 29, 30, 31, 32, 33, 35]] K
  | 35, _, K => some K
  | _, _, K => some K
end NodT
namespace Go.Proofs.YtldedhfbpongmaaDoor
open Go.Instr Go.RowKit NodT
set_option linter.unusedVariables false
set_option maxHeartbeats 1000000 in
theorem take_default (t : Nd) (d : Int) (bl B : Nat) (A : Option Addr) (c : Nat) (K : List Nd) (w : World) (hkind : ∀ k ∈ [1, 2, 3, 4, 5, 6, 8, 16, 34], ¬ t.kind = k) (hlb : LookBox w bl t d A K.length c) (hin : InL w B A c K) (hBb : B ≤ bl) :
    Calls Tryd.prog 40 #[.pointer (some ⟨bl, 0, none⟩)] w (TakePost (some K) t d bl B w) := by
  have HLB0 := Lib.hid hlb
  have HIN0 := Lib.hid hin
  obtain ⟨c0_0, _, c2_0, _, c4_0, _, _⟩ := hlb
  have e1 : ((t.kind : Int) == 1) = false := by have := hkind 1 (by decide); rw [beq_eq_false_iff_ne]; omega
  have e2 : ((t.kind : Int) == 2) = false := by have := hkind 2 (by decide); rw [beq_eq_false_iff_ne]; omega
  have e3 : ((t.kind : Int) == 3) = false := by have := hkind 3 (by decide); rw [beq_eq_false_iff_ne]; omega
  have e4 : ((t.kind : Int) == 4) = false := by have := hkind 4 (by decide); rw [beq_eq_false_iff_ne]; omega
  have e5 : ((t.kind : Int) == 5) = false := by have := hkind 5 (by decide); rw [beq_eq_false_iff_ne]; omega
  have e6 : ((t.kind : Int) == 6) = false := by have := hkind 6 (by decide); rw [beq_eq_false_iff_ne]; omega
  have e8 : ((t.kind : Int) == 8) = false := by have := hkind 8 (by decide); rw [beq_eq_false_iff_ne]; omega
  have e16 : ((t.kind : Int) == 16) = false := by have := hkind 16 (by decide); rw [beq_eq_false_iff_ne]; omega
  have e34 : ((t.kind : Int) == 34) = false := by have := hkind 34 (by decide); rw [beq_eq_false_iff_ne]; omega
  clear hin hkind
  generalize t.kind = kk at *
  go_enter Tryd.func40, Tryd.ntmps40
  go_wp2_with fail
  go_end0
  exact ⟨rfl, ⟨rfl, rfl, rfl, Nat.le_refl _, fun _ _ _ => rfl⟩, _, _, HLB0.out, HIN0.out⟩
theorem takes_statement (t : Nd) (d : Int) (bl B : Nat) (A : Option Addr) (c : Nat) (K : List Nd) (w : World) (hkind : t.kind ∈ [9, 10, 11, 12, 13, 14, 15, 17, 18, 19, 20]) (hlb : LookBox w bl t d A K.length c) (hin : InL w B A c K) (hBb : B ≤ bl) (hnum : -9223372036854775808 ≤ t.num ∧ t.num ≤ 9223372036854775807) :
    Calls Tryd.prog 37 #[.pointer (some ⟨bl, 0, none⟩)] w (TakePost (eats t.kind t.num K) t d bl B w) := by
  simp only [List.mem_cons, List.not_mem_nil, or_false] at hkind
  rcases hkind with h | h | h | h | h | h | h | h | h | h | h
  · have e : eats t.kind t.num K = eats 9 t.num K := by rw [h]
    rw [e]
    exact take_9 t d bl B A c K w h hlb hin hBb
  · have e : eats t.kind t.num K = eats 10 t.num K := by rw [h]
    rw [e]
    exact take_10 t d bl B A c K w h hlb hin hBb
  · have e : eats t.kind t.num K = eats 11 t.num K := by rw [h]
    rw [e]
    by_cases hc : 1 < t.num
    · have e2 : eats 11 t.num K = _ := if_pos hc
      rw [e2]
      exact take_11many t d bl B A c K w h hlb hin hBb hnum hc
    · have e2 : eats 11 t.num K = _ := if_neg hc
      rw [e2]
      exact take_11few t d bl B A c K w h hlb hin hBb hnum hc
  · have e : eats t.kind t.num K = eats 12 t.num K := by rw [h]
    rw [e]
    by_cases hc : 1 < t.num
    · have e2 : eats 12 t.num K = _ := if_pos hc
      rw [e2]
      exact take_12many t d bl B A c K w h hlb hin hBb hnum hc
    · have e2 : eats 12 t.num K = _ := if_neg hc
      rw [e2]
      exact take_12few t d bl B A c K w h hlb hin hBb hnum hc
  · have e : eats t.kind t.num K = eats 13 t.num K := by rw [h]
    rw [e]
    exact take_13 t d bl B A c K w h hlb hin hBb
  · have e : eats t.kind t.num K = eats 14 t.num K := by rw [h]
    rw [e]
    by_cases hc : 1 < K.length
    · have e2 : eats 14 t.num K = _ := if_pos hc
      rw [e2]
      exact take_14many t d bl B A c K w h hlb hin hBb hnum hc
    · have e2 : eats 14 t.num K = _ := if_neg hc
      rw [e2]
      exact take_14few t d bl B A c K w h hlb hin hBb hnum hc
  · have e : eats t.kind t.num K = eats 15 t.num K := by rw [h]
    rw [e]
    exact take_15 t d bl B A c K w h hlb hin hBb
  · have e : eats t.kind t.num K = eats 17 t.num K := by rw [h]
    rw [e]
    exact take_17 t d bl B A c K w h hlb hin hBb
  · have e : eats t.kind t.num K = eats 18 t.num K := by rw [h]
    rw [e]
    exact take_18 t d bl B A c K w h hlb hin hBb
  · have e : eats t.kind t.num K = eats 19 t.num K := by rw [h]
    rw [e]
    exact take_19 t d bl B A c K w h hlb hin hBb
  · have e : eats t.kind t.num K = eats 20 t.num K := by rw [h]
    rw [e]
    exact take_20 t d bl B A c K w h hlb hin hBb
theorem takes_expression (t : Nd) (d : Int) (bl B : Nat) (A : Option Addr) (c : Nat) (K : List Nd) (w : World) (hkind : t.kind ∈ [21, 22, 23, 24, 25, 26, 27, 28, 29, 30, 31, 32, 33, 35]) (hlb : LookBox w bl t d A K.length c) (hin : InL w B A c K) (hBb : B ≤ bl) (hnum : -9223372036854775808 ≤ t.num ∧ t.num ≤ 9223372036854775807) :
    Calls Tryd.prog 39 #[.pointer (some ⟨bl, 0, none⟩)] w (TakePost (eats t.kind t.num K) t d bl B w) := by
  simp only [List.mem_cons, List.not_mem_nil, or_false] at hkind
  rcases hkind with h | h | h | h | h | h | h | h | h | h | h | h | h | h
  · have e : eats t.kind t.num K = eats 21 t.num K := by rw [h]
    rw [e]
    exact take_21 t d bl B A c K w h hlb hin hBb
  · have e : eats t.kind t.num K = eats 22 t.num K := by rw [h]
    rw [e]
    exact take_22 t d bl B A c K w h hlb hin hBb
  · have e : eats t.kind t.num K = eats 23 t.num K := by rw [h]
    rw [e]
    exact take_23 t d bl B A c K w h hlb hin hBb
  · have e : eats t.kind t.num K = eats 24 t.num K := by rw [h]
    rw [e]
    exact take_24 t d bl B A c K w h hlb hin hBb
  · have e : eats t.kind t.num K = eats 25 t.num K := by rw [h]
    rw [e]
    exact take_25 t d bl B A c K w h hlb hin hBb
  · have e : eats t.kind t.num K = eats 26 t.num K := by rw [h]
    rw [e]
    exact take_26 t d bl B A c K w h hlb hin hBb
  · have e : eats t.kind t.num K = eats 27 t.num K := by rw [h]
    rw [e]
    exact take_27 t d bl B A c K w h hlb hin hBb
  · have e : eats t.kind t.num K = eats 28 t.num K := by rw [h]
    rw [e]
    exact take_28 t d bl B A c K w h hlb hin hBb
  · have e : eats t.kind t.num K = eats 29 t.num K := by rw [h]
    rw [e]
    exact take_29 t d bl B A c K w h hlb hin hBb
  · have e : eats t.kind t.num K = eats 30 t.num K := by rw [h]
    rw [e]
    exact take_30 t d bl B A c K w h hlb hin hBb
  · have e : eats t.kind t.num K = eats 31 t.num K := by rw [h]
    rw [e]
    exact take_31 t d bl B A c K w h hlb hin hBb
  · have e : eats t.kind t.num K = eats 32 t.num K := by rw [h]
    rw [e]
    exact take_32 t d bl B A c K w h hlb hin hBb
  · have e : eats t.kind t.num K = eats 33 t.num K := by rw [h]
    rw [e]
    exact take_33 t d bl B A c K w h hlb hin hBb
  · have e : eats t.kind t.num K = eats 35 t.num K := by rw [h]
    rw [e]
    exact take_35 t d bl B A c K w h hlb hin hBb
theorem takes_known (t : Nd) (d : Int) (bl B : Nat) (A : Option Addr) (c : Nat) (K : List Nd) (w : World) (hkind : t.kind ∈ [1, 2, 3, 4, 5, 6, 8, 16, 34]) (hlb : LookBox w bl t d A K.length c) (hin : InL w B A c K) (hBb : B ≤ bl) (hnum : -9223372036854775808 ≤ t.num ∧ t.num ≤ 9223372036854775807) :
    Calls Tryd.prog 40 #[.pointer (some ⟨bl, 0, none⟩)] w (TakePost (eats t.kind t.num K) t d bl B w) := by
  simp only [List.mem_cons, List.not_mem_nil, or_false] at hkind
  rcases hkind with h | h | h | h | h | h | h | h | h
  · have e : eats t.kind t.num K = eats 1 t.num K := by rw [h]
    rw [e]
    exact take_1 t d bl B A c K w h hlb hin hBb
  · have e : eats t.kind t.num K = eats 2 t.num K := by rw [h]
    rw [e]
    exact take_2 t d bl B A c K w h hlb hin hBb
  · have e : eats t.kind t.num K = eats 3 t.num K := by rw [h]
    rw [e]
    exact take_3 t d bl B A c K w h hlb hin hBb
  · have e : eats t.kind t.num K = eats 4 t.num K := by rw [h]
    rw [e]
    exact take_4 t d bl B A c K w h hlb hin hBb
  · have e : eats t.kind t.num K = eats 5 t.num K := by rw [h]
    rw [e]
    exact take_5 t d bl B A c K w h hlb hin hBb
  · have e : eats t.kind t.num K = eats 6 t.num K := by rw [h]
    rw [e]
    exact take_6 t d bl B A c K w h hlb hin hBb
  · have e : eats t.kind t.num K = eats 8 t.num K := by rw [h]
    rw [e]
    exact take_8 t d bl B A c K w h hlb hin hBb
  · have e : eats t.kind t.num K = eats 16 t.num K := by rw [h]
    rw [e]
    exact take_16 t d bl B A c K w h hlb hin hBb
  · have e : eats t.kind t.num K = eats 34 t.num K := by rw [h]
    rw [e]
    exact take_34 t d bl B A c K w h hlb hin hBb
theorem eats_else (k : Nat) (n : Int) (K : List Nd) (h1 : k ∉ [9, 10, 11, 12, 13, 14, 15, 17, 18, 19, 20]) (h2 : k ∉ [21, 22, 23, 24, 25, 26, 27, 28, 29, 30, 31, 32, 33, 35]) (h3 : k ∉ [1, 2, 3, 4, 5, 6, 8, 16, 34]) : eats k n K = some K := by
  unfold eats
  split <;> simp_all
theorem takes_other (t : Nd) (d : Int) (bl B : Nat) (A : Option Addr) (c : Nat) (K : List Nd) (w : World) (hk1 : t.kind ∉ [9, 10, 11, 12, 13, 14, 15, 17, 18, 19, 20]) (hk2 : t.kind ∉ [21, 22, 23, 24, 25, 26, 27, 28, 29, 30, 31, 32, 33, 35]) (hlb : LookBox w bl t d A K.length c) (hin : InL w B A c K) (hBb : B ≤ bl) (hnum : -9223372036854775808 ≤ t.num ∧ t.num ≤ 9223372036854775807) :
    Calls Tryd.prog 40 #[.pointer (some ⟨bl, 0, none⟩)] w (TakePost (eats t.kind t.num K) t d bl B w) := by
  by_cases h : t.kind ∈ [1, 2, 3, 4, 5, 6, 8, 16, 34]
  · exact takes_known t d bl B A c K w h hlb hin hBb hnum
  · rw [eats_else _ _ _ hk1 hk2 h]
    exact take_default t d bl B A c K w (fun k hk e => h (e ▸ hk)) hlb hin hBb
end Go.Proofs.YtldedhfbpongmaaDoor
