import Derived.Test.YtgncihoioacgjaaGreatDoorNumZh
namespace Go.Proofs.YtgncihoioacgjaaGreatDoor
open Go.Instr Go.RowKit NumF
set_option linter.unusedVariables false
set_option maxHeartbeats 1000000
theorem YtgncihoioacgjaaGreatDoorlt (n : Nat) (h : n < 9007199254740992) : N n < 4845873199050653696 := by
  by_cases h0 : n = 0
  · subst h0; rw [YtgncihoioacgjaaGreatDoorzero]; omega
  · have := (K_bounds n h0 h).2
    have := log2_le n h0 h
    rw [YtgncihoioacgjaaGreatDooreq n h0 h]
    omega
theorem YtgncihoioacgjaaGreatDoorplain (n : Nat) (h : n < 9007199254740992) : plainB (N n) = N n := by
  have h1 := YtgncihoioacgjaaGreatDoorlt n h
  generalize N n = v at *
  have h2 : isNan v = false := by
    unfold isNan
    exact decide_eq_false (by omega)
  unfold plainB; rw [h2, if_neg (by decide)]
theorem fr_add (a b : Nat) (h : a + b < 9007199254740992) : fr .add (N a) (N b) = N (a + b) := by
  rw [fr_some (show floatBits .add .f64 (N a) (N b) = some (N (a + b)) from YtgncihoioacgjaaGreatDooradd a b h), YtgncihoioacgjaaGreatDoorplain _ h]
theorem fr_mul (a b : Nat) (ha : a < 9007199254740992) (hb : b < 9007199254740992) (h : a * b < 9007199254740992) : fr .mul (N a) (N b) = N (a * b) := by
  rw [fr_some (show floatBits .mul .f64 (N a) (N b) = some (N (a * b)) from YtgncihoioacgjaaGreatDoormul a b ha hb h), YtgncihoioacgjaaGreatDoorplain _ h]
theorem FromInt_any (n : Nat) (h : n ≤ 9223372036854775807) (w : World) : Calls Tryz.prog 24 #[.int .i64 (n : Int)] w fun e w' => e = .returned (.int .u64 (N n : Int)) ∧ w = w' := by
  have e1 := flt_of_nat n
  have hb := bits_run (N n)
  generalize N n = v at *
  go_enter Tryz.func24, Tryz.ntmps24
  go_wp2
  go_ret
  exact ⟨rfl, rfl⟩
theorem txt_z1 : txt [48] 1 = ⟨#[48, 46, 48]⟩ := rfl
theorem txt_z2 : txt [48] 2 = ⟨#[48, 46, 48, 48]⟩ := rfl
theorem ReadFloat_txt (n z : Nat) (hz : z = 1 ∨ z = 2) (hn : n < 9007199254740992) (w : World) (pb po cap : Nat) (ht : Tabz w pb po cap) :
    Calls Tryz.prog 22 #[.string (txt (D 15 n) z)] w fun e w' => e = .returned (.tuple #[.int .u64 (N n : Int), .bool true]) ∧ Below w.heap.size w w' := by
  have hlt : n < 10 ^ (15 + 1) := by have : (10 : Nat) ^ (15 + 1) = 10000000000000000 := by decide
                                     omega
  have hd := D_digit 15 n
  have hl := D_length 15 n
  have h0 := D_pos 15 n
  have hg : ∀ (l : List UInt8), (∀ c ∈ l, 48 ≤ c.toNat ∧ c.toNat ≤ 57) → ∀ (k : Nat) (h : k < (⟨l.toArray⟩ : ByteArray).size), 48 ≤ (⟨l.toArray⟩ : ByteArray)[k].toNat ∧ (⟨l.toArray⟩ : ByteArray)[k].toNat ≤ 57 := by
    intro l hl k h
    rw [bget]; exact hl _ (List.getElem_mem h)
  have hr : ∀ c ∈ List.replicate z (48 : UInt8), 48 ≤ c.toNat ∧ c.toNat ≤ 57 := by
    intro c hc
    rw [(List.mem_replicate.1 hc).2]; decide
  have hrs : (⟨(List.replicate z (48 : UInt8)).toArray⟩ : ByteArray).size = z := by
    show (List.replicate z (48 : UInt8)).length = z
    simp
  have h49 : 49 ≤ (⟨(D 15 n).toArray⟩ : ByteArray)[0].toNat ∨ (⟨(D 15 n).toArray⟩ : ByteArray).size = 1 := by
    by_cases hn0 : n = 0
    · right; subst hn0; rw [D_zero]; rfl
    · left
      obtain ⟨c, r, e, h1, h2⟩ := D_head 15 n hlt hn0
      have : (D 15 n)[0] = c := by simp only [e]; rfl
      rw [bget, this]; exact h1
  have hs : (⟨(D 15 n).toArray⟩ : ByteArray).size = (D 15 n).length := rfl
  refine ReadFloat_of (txt (D 15 n) z) ⟨(D 15 n).toArray⟩ ⟨(List.replicate z 48).toArray⟩ (D 15 n).length (N n) (firstIdx_txt _ _ fun c hc => (hd c hc).1) (by rw [txt_size]; omega) (txt_left _ _) (txt_right _ _) (by rw [txt_size]; omega) (by omega) (by omega)
    (isWhole_any _ h0 (by omega) (hg _ hd) h49) (isDigits_any _ (by omega) (by omega) (hg _ hr)) w pb po cap ht ?_
  intro w ht
  by_cases hn0 : n = 0
  · subst hn0
    rw [D_zero, YtgncihoioacgjaaGreatDoorzero]
    rcases hz with rfl | rfl
    · exact atof_zero _ 3 (by decide) rfl readFloat_z1 w ht.base.opt
    · exact atof_zero _ 4 (by decide) rfl readFloat_z2 w ht.base.opt
  · obtain ⟨c, r, e, h1, h2⟩ := D_head 15 n hlt hn0
    exact atof_pos (D 15 n) z n hz hl hd ⟨c, r, e, h1⟩ (D_val 15 n hlt) (by omega) hn w pb po cap ht
theorem text_D (n : Nat) (hn : n < 9007199254740992) (w : World) : Calls Tryz.prog 27 #[.int .i64 (n : Int)] w fun e w' => e = .returned (.string ⟨(D 15 n).toArray⟩) ∧ Below w.heap.size w w' :=
  text_any 15 (by omega) n w (by have : (10 : Nat) ^ (15 + 1) = 10000000000000000 := by decide
                                 omega) (by omega)
theorem ReadInt_D (n : Nat) (hn : n < 9007199254740992) (w : World) : Calls Tryz.prog 20 #[.string ⟨(D 15 n).toArray⟩] w fun e w' => e = .returned (.tuple #[.int .i64 (n : Int), .bool true]) ∧ Below w.heap.size w w' := by
  have hlt : n < 10 ^ (15 + 1) := by have : (10 : Nat) ^ (15 + 1) = 10000000000000000 := by decide
                                     omega
  refine ReadInt_of (D 15 n) n (D_digit 15 n) (D_pos 15 n) (D_length 15 n) ?_ (D_val 15 n hlt) hn w
  by_cases hn0 : n = 0
  · left; subst hn0; rw [D_zero]; rfl
  · right
    obtain ⟨c, r, e, h1, h2⟩ := D_head 15 n hlt hn0
    exact ⟨c, r, e, h1⟩
theorem txt_dot1 (l : List UInt8) : (⟨l.toArray⟩ : ByteArray) ++ ⟨#[46, 48]⟩ = txt l 1 := ba_append l [46, 48]
theorem txt_dot2 (l : List UInt8) : (⟨l.toArray⟩ : ByteArray) ++ ⟨#[46, 48, 48]⟩ = txt l 2 := ba_append l [46, 48, 48]
end Go.Proofs.YtgncihoioacgjaaGreatDoor
