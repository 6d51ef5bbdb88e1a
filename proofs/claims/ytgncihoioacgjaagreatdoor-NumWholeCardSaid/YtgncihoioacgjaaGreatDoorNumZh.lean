import Derived.Test.YtgncihoioacgjaaGreatDoorNumZg
import Derived.Lib.ParseIntBCases
namespace Go.Proofs.YtgncihoioacgjaaGreatDoor
open Go.Instr Go.RowKit NumF
set_option linter.unusedVariables false
set_option maxHeartbeats 1000000
theorem parseM_digits : ∀ (l : List UInt8) (acc : Nat), (∀ c ∈ l, 48 ≤ c.toNat ∧ c.toNat ≤ 57) → l.foldl (fun v c => 10 * v + (c.toNat - 48)) acc < 1000000000000000000 →
    Lib.parseUintM (2 ^ 64 - 1) acc l = .ok (l.foldl (fun v c => 10 * v + (c.toNat - 48)) acc)
  | [], acc, _, _ => rfl
  | c :: r, acc, hd, h => by
    rw [List.foldl_cons] at h ⊢
    have hc := hd c (by simp)
    have h1 := V10_fold_le r (10 * acc + (c.toNat - 48))
    unfold Lib.parseUintM
    rw [if_pos hc, if_neg (by omega), if_neg (by omega), Nat.mul_comm acc 10]
    exact parseM_digits r _ (fun x hx => hd x (by simp [hx])) h
theorem parse_text (l : List UInt8) (n : Nat) (hd : ∀ c ∈ l, 48 ≤ c.toNat ∧ c.toNat ≤ 57) (h0 : 0 < l.length) (hv : V10 l = n) (hn : n < 9007199254740992) : Lib.parseIntB 64 l = .ok (n : Int) := by
  cases l with
  | nil => simp at h0
  | cons c r =>
    have hc := hd c (by simp)
    rw [Lib.parseIntB_plain 64 c r (by omega) (by omega)]
    unfold Lib.parseUintB
    rw [if_neg (by simp)]
    have hf : (c :: r).foldl (fun v c => 10 * v + (c.toNat - 48)) 0 = n := hv
    rw [parseM_digits (c :: r) 0 hd (by rw [hf]; omega), hf]
    unfold Lib.signlessC
    show (if 2 ^ (64 - 1) ≤ n then _ else _) = _
    rw [if_neg (by have : (2 : Nat) ^ (64 - 1) = 9223372036854775808 := by decide
                   omega)]
theorem ReadInt_of (l : List UInt8) (n : Nat) (hd : ∀ c ∈ l, 48 ≤ c.toNat ∧ c.toNat ≤ 57) (h0 : 0 < l.length) (hl : l.length ≤ 16) (hh : l.length = 1 ∨ ∃ c r, l = c :: r ∧ 49 ≤ c.toNat) (hv : V10 l = n) (hn : n < 9007199254740992) (w : World) :
    Calls Tryz.prog 20 #[.string ⟨l.toArray⟩] w fun e w' => e = .returned (.tuple #[.int .i64 (n : Int), .bool true]) ∧ Below w.heap.size w w' := by
  have hsz : (⟨l.toArray⟩ : ByteArray).size = l.length := rfl
  have hg : ∀ (k : Nat) (h : k < (⟨l.toArray⟩ : ByteArray).size), 48 ≤ (⟨l.toArray⟩ : ByteArray)[k].toNat ∧ (⟨l.toArray⟩ : ByteArray)[k].toNat ≤ 57 := by
    intro k h
    rw [bget]; exact hd _ (List.getElem_mem h)
  have h49 : 49 ≤ (⟨l.toArray⟩ : ByteArray)[0].toNat ∨ (⟨l.toArray⟩ : ByteArray).size = 1 := by
    rcases hh with h | ⟨c, r, rfl, h⟩
    · exact .inr h
    · exact .inl h
  have hw := Lib.hid (isWhole_any ⟨l.toArray⟩ h0 (by omega) hg h49)
  have hp : Hid (∀ w, Calls Tryz.prog 40 #[.string ⟨l.toArray⟩, .int .i64 10, .int .i64 64] w fun e w' => e = .returned (.tuple #[.int .i64 (n : Int), .nilIface]) ∧ Below w.heap.size w w') := by
    refine Lib.hid fun w => ?_
    refine (Tryz.strconv_ParseInt_10_at64_ok ⟨l.toArray⟩ (by omega) n (parse_text l n hd h0 hv hn) w).mono ?_
    rintro e w' ⟨rfl, h⟩
    refine ⟨rfl, ?_⟩
    rcases h with rfl | ⟨t, rfl⟩
    · exact Below.refl _ _
    · exact Lib.bytesWorld_below _ _ _
  clear hg h49 hsz h0
  generalize (⟨l.toArray⟩ : ByteArray) = s at *
  go_enter Tryz.func20, Tryz.ntmps20
  go_wp2_with (first | (go_at_call 39; refine (hw.out _).mono ?_; rintro e w' ⟨rfl, rfl⟩) | (go_at_call 40; refine (hp.out _).mono ?_; rintro e w1 ⟨rfl, b1⟩))
  go_ret2
  exact ⟨rfl, b1⟩
end Go.Proofs.YtgncihoioacgjaaGreatDoor
