import Derived.Test.YtgncihoioacgjaaGreatDoorNumQ
import Derived.Test.YtgncihoioacgjaaGreatDoorNumR
namespace Go.Proofs.YtgncihoioacgjaaGreatDoor
open Go.Instr Go.RowKit NumF
set_option linter.unusedVariables false
theorem NumLaws_any (a b : Nat) (ha : a < 18446744073709551616) (hb : b < 18446744073709551616) (m n : Int) (hm1 : -9223372036854775808 ≤ m) (hm2 : m ≤ 9223372036854775807) (w : World) (pb po cap : Nat) (ht : Tabs w pb po cap) :
    Calls Tryz.prog 7 #[.int .u64 (a : Int), .int .u64 (b : Int), .int .i64 m, .int .i64 n] w fun e w' => e = .returned (.bool true) ∧ Below w.heap.size w w' := by
  cases na : isNan a with
  | true =>
    have ho : FloatKind.f64.format.order a b = none := order_nan a b (.inl na)
    by_cases hn : n = 0
    · subst hn; exact NumLaws_Az a b ha hb na ho m hm1 hm2 w pb po cap ht
    · exact NumLaws_An a b ha hb na ho m hm1 hm2 n hn w pb po cap ht
  | false =>
    cases nb : isNan b with
    | true =>
      have ho : FloatKind.f64.format.order a b = none := order_nan a b (.inr nb)
      by_cases hn : n = 0
      · subst hn; exact NumLaws_Bz a b ha hb na nb ho m hm1 hm2 w pb po cap ht
      · exact NumLaws_Bn a b ha hb na nb ho m hm1 hm2 n hn w pb po cap ht
    | false =>
      have ho : FloatKind.f64.format.order a b = some (compare (pl a) (pl b)) := order_places a b ha hb na nb
      cases hc : compare (pl a) (pl b) with
      | lt =>
        rw [hc] at ho
        by_cases hn : n = 0
        · subst hn; exact NumLaws_Lz a b ha hb na nb ho m hm1 hm2 w pb po cap ht
        · exact NumLaws_Ln a b ha hb na nb ho m hm1 hm2 n hn w pb po cap ht
      | eq =>
        rw [hc] at ho
        by_cases hn : n = 0
        · subst hn; exact NumLaws_Ez a b ha hb na nb ho m hm1 hm2 w pb po cap ht
        · exact NumLaws_En a b ha hb na nb ho m hm1 hm2 n hn w pb po cap ht
      | gt =>
        rw [hc] at ho
        by_cases hn : n = 0
        · subst hn; exact NumLaws_Gz a b ha hb na nb ho m hm1 hm2 w pb po cap ht
        · exact NumLaws_Gn a b ha hb na nb ho m hm1 hm2 n hn w pb po cap ht
end Go.Proofs.YtgncihoioacgjaaGreatDoor
