/- Declare. -/
import Derived.Test.YtfpjleabmemieaaGreatScoK
set_option maxRecDepth 100000
namespace Go.Proofs.YtfpjleabmemieaaGreat
open Go.Instr Go.RowKit ScoT
set_option linter.unusedVariables false
variable {w : World} {tag : Nat → Tag} {n₀ s : Nat} {A : Option Addr} {cap : Nat} {bs : List Bk}
theorem Declare_no (p : Option Addr) (w : World) (h : NoScope w p) (name : ByteArray) (t : Ty) : Calls Tryz.prog 20 #[.pointer p, .string name, t.val] w fun e w' => e = .returned (.int .i64 1) ∧ Below w.heap.size w w' := by
  have h1 : NoScope (w.alloc (.cells #[.int .u8 t.kind, .string t.name, .slice t.addr t.els.length t.cap] 26)) p := by
    rcases h with rfl | ⟨b, rfl, h⟩
    · exact .inl rfl
    · exact .inr ⟨b, rfl, by rw [World.cell?_alloc_lt _ _ _ (World.block_lt_of_cell? _ _ h)]; exact h⟩
  clear h
  unfold Ty.val Ty.row
  go_enter Tryz.func20, Tryz.ntmps20
  go_wp2_with (go_at_call 35; refine (hindered_no p _ h1).mono ?_; rintro e w' ⟨rfl, rfl⟩)
  go_ret
  exact ⟨rfl, (Below.refl _ _).alloc (Nat.le_refl _) _⟩
theorem Declare_none (h : SC w tag n₀ s A cap []) (name : ByteArray) (t : Ty) : Calls Tryz.prog 20 #[.pointer (some ⟨s, 0, none⟩), .string name, t.val] w fun e w' => e = .returned (.int .i64 6) ∧ Below w.heap.size w w' := by
  have hb1 : Below w.heap.size w (w.alloc (.cells #[.int .u8 t.kind, .string t.name, .slice t.addr t.els.length t.cap] 26)) := (Below.refl _ _).alloc (Nat.le_refl _) _
  have H := Lib.hid (h.keep hb1.size (fun b hb => hb1.block b (h.lt b hb).2))
  clear h
  unfold Ty.val Ty.row
  go_enter Tryz.func20, Tryz.ntmps20
  go_wp2_with (go_at_call 35; refine (hindered_any H.out).mono ?_; rintro e w' ⟨rfl, rfl⟩)
  go_ret
  exact ⟨rfl, hb1⟩
/-- What the region of Declare reads. -/
def DS (n g : Nat) (s : Nat) (A : Option Addr) (cap : Nat) (xs : List Bk) (k : Bk) (t : Ty) (V : World) : Prop :=
  V.cell? ⟨s, 0, none⟩ = some (.slice A (xs.length + 1) cap) ∧ V.cell? ⟨g, xs.length, none⟩ = some (.pointer (some ⟨k.loc, 0, none⟩)) ∧ V.cell? ⟨n, 0, none⟩ = some (.int .u8 t.kind) ∧ V.cell? ⟨n, 1, none⟩ = some (.string t.name) ∧ V.cell? ⟨n, 2, none⟩ = some (.slice t.addr t.els.length t.cap)
theorem DS.under {n g : Nat} {xs : List Bk} {k : Bk} {t : Ty} {V V' : World} (h : DS n g s A cap xs k t V) (hb : Below V.heap.size V V') : DS n g s A cap xs k t V' := by
  obtain ⟨h0, h1, h2, h3, h4⟩ := h
  have f : ∀ {p : Addr} {v : Value}, V.cell? p = some v → V'.cell? p = some v := fun {p v} hv => (hb.cell (World.block_lt_of_cell? _ _ hv)).trans hv
  exact ⟨f h0, f h1, f h2, f h3, f h4⟩
def DeclPost (w : World) (tag : Nat → Tag) (n₀ s : Nat) (A : Option Addr) (cap : Nat) (xs : List Bk) (k : Bk) (name : ByteArray) (t : Ty) (e : Ending) (w' : World) : Prop :=
  e = .returned (.int .i64 0) ∧ ∃ tag' t' m o, SC w' tag' n₀ s A cap (xs ++ [{ k with ord := o, names := k.names ++ [⟨name, t', false, m⟩] }]) ∧ same t t' = true ∧ Turns w tag w' tag'
theorem ds_again {n g : Nat} {xs : List Bk} {k k' : Bk} {t : Ty} {X w' : World} {tag' : Nat → Tag} (h : DS n g s (some ⟨g, 0, none⟩) cap xs k t X) (hs : SC w' tag' n₀ s (some ⟨g, 0, none⟩) cap (xs ++ [k'])) (ht : Turns X tag w' tag') (hn : tag n = .none) (hlt : n < X.heap.size) (hk : k'.loc = k.loc := by rfl) : DS n g s (some ⟨g, 0, none⟩) cap xs k t w' := by
  obtain ⟨h0, h1, h2, h3, h4⟩ := h
  have e := (ht.out n hlt hn).1
  have c0 := hs.c0
  rw [List.length_append, List.length_singleton] at c0
  have cr : w'.cell? ⟨g, xs.length, none⟩ = some (.pointer (some ⟨k'.loc, 0, none⟩)) := row_ptr hs.own (by simp)
  rw [hk] at cr
  exact ⟨c0, cr, (World.cell?_of_block e).trans h2, (World.cell?_of_block e).trans h3, (World.cell?_of_block e).trans h4⟩
set_option maxHeartbeats 2000000 in
theorem Declare_twice {k : Bk} {xs : List Bk} {j : Nat} (h : SC w tag n₀ s A cap (xs ++ [k])) (name : ByteArray) (t : Ty) (hf : findN name k.names = some j) (hl : xs.length ≤ 1000000) :
    Calls Tryz.prog 20 #[.pointer (some ⟨s, 0, none⟩), .string name, t.val] w fun e w' => e = .returned (.int .i64 110) ∧ Below w.heap.size w w' := by
  obtain ⟨g, rfl⟩ := h.row_some
  obtain ⟨X, hX⟩ : ∃ X, X = w.alloc (.cells #[.int .u8 t.kind, .string t.name, .slice t.addr t.els.length t.cap] 26) := ⟨_, rfl⟩
  have hb1 : Below w.heap.size w X := by rw [hX]; exact (Below.refl _ _).alloc (Nat.le_refl _) _
  have h1 : SC X tag n₀ s (some ⟨g, 0, none⟩) cap (xs ++ [k]) := h.keep hb1.size (fun b hb => hb1.block b (h.lt b hb).2)
  have c0 := h1.c0
  rw [List.length_append, List.length_singleton] at c0
  have cr : X.cell? ⟨g, xs.length, none⟩ = some (.pointer (some ⟨k.loc, 0, none⟩)) := row_ptr h1.own (by simp)
  have e0 := cs3_of (show X.heap[w.heap.size]? = _ by rw [hX]; exact World.alloc_heap_new _ _)
  have HD : Hid (DS w.heap.size g s (some ⟨g, 0, none⟩) cap xs k t X) := Lib.hid ⟨c0, cr, e0.1.1, e0.1.2.1, e0.1.2.2⟩
  have HH := hindered_any h1
  rw [if_neg (by simp)] at HH
  have HK : Hid (BkAt X.drew tag n₀ 9 xs.length k) := Lib.hid ((h1.bk xs.length k (by simp)).keep fun b _ => ⟨rfl, rfl⟩)
  have H := Lib.hid h1
  have HHH := Lib.hid HH
  have HX := Lib.hid hX
  have HF := Lib.hid (And.intro hf (And.intro hl hb1))
  clear h h1 HH hf hl hb1 cr e0 hX
  unfold Ty.val Ty.row
  go_enter Tryz.func20, Tryz.ntmps20
  go_wp2_with (go_at_call 35; rw [← HX.out]; refine HHH.out.mono ?_; rintro e X ⟨rfl, rfl⟩)
  obtain ⟨s0, s1, s2, s3, s4⟩ := HD.out
  go_region_held3 (fun V => V.cell? ⟨s, 0, none⟩ = some (.slice (some ⟨g, 0, none⟩) (xs.length + 1) cap) ∧ V.cell? ⟨g, xs.length, none⟩ = some (.pointer (some ⟨k.loc, 0, none⟩)) ∧ V.cell? ⟨w.heap.size, 0, none⟩ = some (.int .u8 t.kind) ∧ V.cell? ⟨w.heap.size, 1, none⟩ = some (.string t.name) ∧ V.cell? ⟨w.heap.size, 2, none⟩ = some (.slice t.addr t.els.length t.cap))
    (first | exact HD.out | assumption)
    (first
     | (go_at_call 39; refine (innermost_any (w := X.drew) (xs := xs) (k := k) s1 HF.out.2.1 rfl).mono ?_; rintro e w' ⟨rfl, rfl⟩)
     | (go_at_call 40; refine (add_twice HK.out name t HF.out.1).mono ?_; rintro e w' ⟨rfl, hb⟩; have hds : DS w.heap.size g s (some ⟨g, 0, none⟩) cap xs k t w' := DS.under (V := X.drew) HD.out hb; unfold DS at hds; have HB := Lib.hid hb; clear hb))
  go_wp2_with fail
  go_ret
  exact ⟨rfl, HF.out.2.2.drew.trans (HB.out.mono HF.out.2.2.size)⟩
set_option maxHeartbeats 2000000 in
theorem Declare_once {k : Bk} {xs : List Bk} (h : SC w tag n₀ s A cap (xs ++ [k])) (name : ByteArray) (t : Ty) (hf : findN name k.names = none) (hs : name.size ≤ 281474976710656) (hl : xs.length ≤ 1000000) (hkl : k.names.length ≤ 1000000) (S : Nat → Prop) (hin : In w S t) (hS : ∀ b, S b → b < w.heap.size ∧ tag b = .none ∧ Plain w b) (hcop : CopiesK t) :
    Calls Tryz.prog 20 #[.pointer (some ⟨s, 0, none⟩), .string name, t.val] w (DeclPost w tag n₀ s A cap xs k name t) := by
  obtain ⟨g, rfl⟩ := h.row_some
  obtain ⟨X, hX⟩ : ∃ X, X = w.alloc (.cells #[.int .u8 t.kind, .string t.name, .slice t.addr t.els.length t.cap] 26) := ⟨_, rfl⟩
  have hb1 : Below w.heap.size w X := by rw [hX]; exact (Below.refl _ _).alloc (Nat.le_refl _) _
  have h1 : SC X tag n₀ s (some ⟨g, 0, none⟩) cap (xs ++ [k]) := h.keep hb1.size (fun b hb => hb1.block b (h.lt b hb).2)
  have c0 := h1.c0
  rw [List.length_append, List.length_singleton] at c0
  have cr : X.cell? ⟨g, xs.length, none⟩ = some (.pointer (some ⟨k.loc, 0, none⟩)) := row_ptr h1.own (by simp)
  have e0 := cs3_of (show X.heap[w.heap.size]? = _ by rw [hX]; exact World.alloc_heap_new _ _)
  have HD : Hid (DS w.heap.size g s (some ⟨g, 0, none⟩) cap xs k t X) := Lib.hid ⟨c0, cr, e0.1.1, e0.1.2.1, e0.1.2.2⟩
  have HH := hindered_any h1
  rw [if_neg (by simp)] at HH
  have HK : Hid (BkAt X.drew tag n₀ 9 xs.length k) := Lib.hid ((h1.bk xs.length k (by simp)).keep fun b _ => ⟨rfl, rfl⟩)
  have H := Lib.hid h1
  have HHH := Lib.hid HH
  have HX := Lib.hid hX
  have HF := Lib.hid (And.intro hf (And.intro hl hb1))
  have HA := Lib.hid (add_once (w := X.drew) (tag := tag) (n₀ := n₀) (s := s) (A := some ⟨g, 0, none⟩) (cap := cap) (h1.keep (w' := X.drew) (Nat.le_refl _) (fun _ _ => rfl)) name t hf hs hkl S (hin.keep (fun b hb => hb) (fun p hp => hb1.cell (hS _ hp).1)) (fun b hb => ⟨Nat.lt_of_lt_of_le (hS b hb).1 hb1.size, (hS b hb).2.1, (hS b hb).2.2.keep (hb1.block b (hS b hb).1)⟩) hcop)
  have HN : Hid (tag w.heap.size = .none ∧ w.heap.size < X.heap.size) := Lib.hid ⟨h.fresh (Nat.le_refl _), by rw [hX]; simp⟩
  clear h h1 HH hf hl hb1 cr e0 hX hin hS hcop hkl hs
  unfold Ty.val Ty.row
  go_enter Tryz.func20, Tryz.ntmps20
  go_wp2_with (go_at_call 35; rw [← HX.out]; refine HHH.out.mono ?_; rintro e X ⟨rfl, rfl⟩)
  obtain ⟨s0, s1, s2, s3, s4⟩ := HD.out
  go_region_held3 (fun V => V.cell? ⟨s, 0, none⟩ = some (.slice (some ⟨g, 0, none⟩) (xs.length + 1) cap) ∧ V.cell? ⟨g, xs.length, none⟩ = some (.pointer (some ⟨k.loc, 0, none⟩)) ∧ V.cell? ⟨w.heap.size, 0, none⟩ = some (.int .u8 t.kind) ∧ V.cell? ⟨w.heap.size, 1, none⟩ = some (.string t.name) ∧ V.cell? ⟨w.heap.size, 2, none⟩ = some (.slice t.addr t.els.length t.cap))
    (first | exact HD.out | assumption)
    (first
     | (go_at_call 39; refine (innermost_any (w := X.drew) (xs := xs) (k := k) s1 HF.out.2.1 rfl).mono ?_; rintro e w' ⟨rfl, rfl⟩)
     | (go_at_call 40; refine HA.out.mono ?_; rintro e w' ⟨rfl, tag', t', m, o, hsc, hsm, htn⟩; have hds : DS w.heap.size g s (some ⟨g, 0, none⟩) cap xs k t w' := ds_again (X := X.drew) HD.out hsc htn HN.out.1 HN.out.2; unfold DS at hds; have HB := Lib.hid (And.intro hsc (And.intro hsm htn)); clear hsc hsm htn))
  go_wp2_with fail
  go_ret
  exact ⟨rfl, tag', t', m, o, HB.out.1, HB.out.2.1, (Turns.of_below HF.out.2.2.drew).trans HB.out.2.2⟩
end Go.Proofs.YtfpjleabmemieaaGreat
