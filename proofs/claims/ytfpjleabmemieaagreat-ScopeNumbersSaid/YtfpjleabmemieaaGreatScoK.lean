/- add and Declare. -/
import Derived.Test.YtfpjleabmemieaaGreatScoF
import Derived.Test.YtfpjleabmemieaaGreatScoG
set_option maxRecDepth 100000
namespace Go.Proofs.YtfpjleabmemieaaGreat
open Go.Instr Go.RowKit ScoT
set_option linter.unusedVariables false
variable {w : World} {tag : Nat → Tag} {n₀ s : Nat} {A : Option Addr} {cap : Nat} {bs : List Bk}
theorem below_more {X V W : World} (h : Below X.heap.size X V) (h' : Below V.heap.size V W) : Below X.heap.size X W := h.trans (h'.mono h.size)
def Near (m : Nat) (X V : World) : Prop := X.heap.size ≤ V.heap.size ∧ ∀ b, b < X.heap.size → b ≠ m → V.heap[b]? = X.heap[b]?
theorem near_below {m : Nat} {X V : World} (h : Below X.heap.size X V) : Near m X V := ⟨h.size, fun b hb _ => h.block b hb⟩
theorem near_alloc {m : Nat} {X V : World} {o : Obj} (h : Below X.heap.size X V) : Near m X (V.alloc o) := near_below (h.alloc h.size o)
theorem near_put {m : Nat} {X V : World} {o o' : Obj} (h : Below X.heap.size X V) : Near m X ((V.alloc o).putObj m o') :=
  ⟨by rw [World.putObj_size]; exact (h.alloc h.size o).size, fun b hb hne => (World.putObj_heap_other hne).trans ((h.alloc h.size o).block b hb)⟩
def CopiesK (t : Ty) : Prop := ∀ (w : World) (S : Nat → Prop), In w S t → (∀ b, S b → b < w.heap.size ∧ Plain w b) → Calls Tryz.prog 49 #[t.val] w (Copied t w)
/-- add, the name there. -/
theorem add_twice {k : Bk} {i j : Nat} (h : BkAt w tag n₀ 9 i k) (name : ByteArray) (t : Ty) (hf : findN name k.names = some j) :
    Calls Tryz.prog 40 #[.pointer (some ⟨k.loc, 0, none⟩), .string name, t.val] w fun e w' => e = .returned (.bool false) ∧ Below w.heap.size w w' := by
  obtain ⟨m, hm, hmn⟩ := findYtfpjleabmemieaaGreatsome hf
  have c1 : (w.alloc (.cells #[.int .u8 t.kind, .string t.name, .slice t.addr t.els.length t.cap] 26)).cell? ⟨k.loc, 1, none⟩ = some (.map (some k.mp)) := by
    rw [World.cell?_alloc_lt _ _ _ (World.block_lt_of_cell? _ _ h.c1)]; exact h.c1
  have hlk := run_lookup_there (P := Tryz.prog) true 113 9 63 (w.alloc (.cells #[.int .u8 t.kind, .string t.name, .slice t.addr t.els.length t.cap] 26)) k.mp (ents k.names) k.names.length name j _ Tryz.underlying113 Tryz.underlying9 (by rw [Below.heap_alloc _ _ _ (Array.getElem?_eq_some_iff.1 h.mp).1]; exact h.mp) (look_ents hf hm)
  simp only [if_true] at hlk
  clear h hf hm hmn
  unfold Ty.val Ty.row
  go_enter Tryz.func40, Tryz.ntmps40
  go_wp2_with fail
  go_ret
  exact ⟨rfl, (Below.refl _ _).alloc (Nat.le_refl _) _⟩
def AddPost (w : World) (tag : Nat → Tag) (n₀ s : Nat) (A : Option Addr) (cap : Nat) (xs : List Bk) (k : Bk) (name : ByteArray) (t : Ty) (e : Ending) (w' : World) : Prop :=
  e = .returned (.bool true) ∧ ∃ tag' t' m o, SC w' tag' n₀ s A cap (xs ++ [{ k with ord := o, names := k.names ++ [⟨name, t', false, m⟩] }]) ∧ same t t' = true ∧ Turns w tag w' tag'
set_option maxHeartbeats 2000000 in
theorem add_once {k : Bk} {xs : List Bk} (h : SC w tag n₀ s A cap (xs ++ [k])) (name : ByteArray) (t : Ty) (hf : findN name k.names = none) (hs : name.size ≤ 281474976710656) (hl : k.names.length ≤ 1000000) (S : Nat → Prop) (hin : In w S t) (hS : ∀ b, S b → b < w.heap.size ∧ tag b = .none ∧ Plain w b) (hcop : CopiesK t) :
    Calls Tryz.prog 40 #[.pointer (some ⟨k.loc, 0, none⟩), .string name, t.val] w (AddPost w tag n₀ s A cap xs k name t) := by
  obtain ⟨i0, hi, hz0, hz1, hz2⟩ := info_parts Tryz.infoStr
  have HI := Lib.hid hi
  have HZ := Lib.hid (And.intro hz0 (And.intro hz1 hz2))
  clear hi hz0 hz1 hz2
  have hk := h.bk xs.length k (by simp)
  have hkl : k.loc < w.heap.size := (h.lt _ (by rw [hk.tg]; simp)).2
  have hb1 : Below w.heap.size w (w.alloc (.cells #[.int .u8 t.kind, .string t.name, .slice t.addr t.els.length t.cap] 26)) := (Below.refl _ _).alloc (Nat.le_refl _) _
  have c1 : (w.alloc (.cells #[.int .u8 t.kind, .string t.name, .slice t.addr t.els.length t.cap] 26)).cell? ⟨k.loc, 1, none⟩ = some (.map (some k.mp)) := (hb1.cell (p := ⟨k.loc, 1, none⟩) hkl).trans hk.c1
  have hlk := run_lookup_not (P := Tryz.prog) true 113 9 63 (w.alloc (.cells #[.int .u8 t.kind, .string t.name, .slice t.addr t.els.length t.cap] 26)) k.mp (ents k.names) k.names.length name (.pointer none) Tryz.underlying113 Tryz.underlying9 (by rw [hb1.block _ (Array.getElem?_eq_some_iff.1 hk.mp).1]; exact hk.mp) (Tryz.zeroValue63 _) (look_no hf)
  simp only [if_true] at hlk
  have H := Lib.hid h
  have HK := Lib.hid hk
  have HA := Lib.hid (And.intro hf (And.intro hs (And.intro hl (And.intro hin (And.intro hS hcop)))))
  clear h hk hf hl hin hS hcop
  unfold Ty.val Ty.row
  go_enter Tryz.func40, Tryz.ntmps40
  go_wp2_with (first
    | (go_at_call 50; refine (Clone_any name _ HA.out.2.1).mono ?_; rintro e w2 ⟨rfl, hb2⟩
       have hb3 : Below w.heap.size w w2 := hb1.trans (hb2.mono (by simp))
       have d0 : w2.cell? ⟨k.loc, 0, none⟩ = some k.ord := (hb3.cell (p := ⟨k.loc, 0, none⟩) hkl).trans HK.out.c0
       have df : w2.frozen? ⟨k.loc, 0, none⟩ = false := (hb3.frozen (p := ⟨k.loc, 0, none⟩) hkl).trans (HK.out.fr 0)
       have dm : w2.cell? ⟨k.loc, 1, none⟩ = some (.map (some k.mp)) := (hb3.cell (p := ⟨k.loc, 1, none⟩) hkl).trans HK.out.c1
       have dt := cs3_of ((hb2.block w.heap.size (by simp)).trans (World.alloc_heap_new w _))
       have HO : Hid (w2.ownsRow n₀ 9 1 k.ord k.names.length (k.names.map fun m => .string m.name)) := Lib.hid (row_keep HK.out.own fun b hb => hb3.block b (H.out.lt b (by rw [HK.out.ot b hb]; simp)).2)
       have HB3 := Lib.hid (And.intro hb3 hb2); clear hb2 hb3)
    | (at_builtin; refine wpList_append_far rfl (.tmp 25) (.tmp 27) 44 rfl n₀ 9 i0 _ 1 16 Tryz.underlying44 HI.out HZ.out.1 HZ.out.2.1 HZ.out.2.2 rfl (by decide) _ k.names.length _ rfl (HO.out.alloc _) (some ⟨w2.heap.size, 0, none⟩) 1 1 rfl (fun e => by cases e) [.string name] rfl ?c1 ?c2 ?c3 ?c4 ?c5 ?next))
  case c1 =>
    intro ad had
    cases had
    exact new_cells w2 [.string name] 9
  case c2 => intro u hu; rw [List.mem_singleton.1 hu]; rfl
  case c3 => have := HA.out.2.2.1; unfold maxLen; omega
  case c4 => have := HA.out.2.2.1; omega
  case c5 => have := H.out.n0_le; have := HB3.out.1.size; simp; omega
  case next =>
    intro v' w4 ho hg hf
    have hne : ∀ b, k.ord.ownBlock = some b → b ≠ k.loc ∧ b < w.heap.size := fun b hb => ⟨fun e => (by have h1 := HK.out.ot b hb; rw [e, HK.out.tg] at h1; cases h1), (H.out.lt b (by rw [HK.out.ot b hb]; simp)).2⟩
    have hs2 : w.heap.size + 1 ≤ w2.heap.size := by have := HB3.out.2.size; simpa using this
    have e1 : w4.heap[k.loc]? = w2.heap[k.loc]? := (hg.block k.loc (by simp; omega) (fun e => (hne _ e.symm).1 rfl)).trans (Below.heap_alloc _ _ _ (by omega))
    have e2 : w4.heap[w.heap.size]? = w2.heap[w.heap.size]? := (hg.block w.heap.size (by simp; omega) (fun e => by have := (hne _ e.symm).2; omega)).trans (Below.heap_alloc _ _ _ (by omega))
    have d0' : w4.cell? ⟨k.loc, 0, none⟩ = some k.ord := (World.cell?_of_block e1).trans d0
    have df' : w4.frozen? ⟨k.loc, 0, none⟩ = false := (World.frozen?_of_block (a := ⟨k.loc, 0, none⟩) e1).trans df
    have dm' : w4.cell? ⟨k.loc, 1, none⟩ = some (.map (some k.mp)) := (World.cell?_of_block e1).trans dm
    have t0 : w4.cell? ⟨w.heap.size, 0, none⟩ = some (.int .u8 t.kind) := (World.cell?_of_block e2).trans dt.1.1
    have t1 : w4.cell? ⟨w.heap.size, 1, none⟩ = some (.string t.name) := (World.cell?_of_block e2).trans dt.1.2.1
    have t2 : w4.cell? ⟨w.heap.size, 2, none⟩ = some (.slice t.addr t.els.length t.cap) := (World.cell?_of_block e2).trans dt.1.2.2
    have hnk : ¬ k.loc = w.heap.size := by omega
    have hkn : ¬ w.heap.size = k.loc := by omega
    obtain ⟨g, c, rfl⟩ := own_slice ho (by omega)
    have HG := Lib.hid (And.intro ho (And.intro hg (And.intro hf (And.intro hs2 hne))))
    clear ho hg hf e1 e2 d0 df dm dt hne hlk c1 hb1
    go_wp2_with fail
    obtain ⟨X, hX⟩ : ∃ X, X = w4.setCell ⟨k.loc, 0, none⟩ (.slice (some ⟨g, 0, none⟩) (k.names.length + 1) c) := ⟨_, rfl⟩
    have m0 : X.cell? ⟨k.loc, 1, none⟩ = some (.map (some k.mp)) := by rw [hX, World.cell?_setCell_other _ _ _ _ (fun e => by injection e with _ e _; cases e)]; exact dm'
    have m1 : X.cell? ⟨w.heap.size, 0, none⟩ = some (.int .u8 t.kind) := by rw [hX, World.cell?_of_block (a := ⟨w.heap.size, 0, none⟩) (set_heap _ _ _ _ _ hkn)]; exact t0
    have m2 : X.cell? ⟨w.heap.size, 1, none⟩ = some (.string t.name) := by rw [hX, World.cell?_of_block (a := ⟨w.heap.size, 1, none⟩) (set_heap _ _ _ _ _ hkn)]; exact t1
    have m3 : X.cell? ⟨w.heap.size, 2, none⟩ = some (.slice t.addr t.els.length t.cap) := by rw [hX, World.cell?_of_block (a := ⟨w.heap.size, 2, none⟩) (set_heap _ _ _ _ _ hkn)]; exact t2
    rw [← hX]
    have hXs : X.heap.size = w4.heap.size := by rw [hX, set_size]
    have HCC : Hid (∀ V, Below X.heap.size X V → Calls Tryz.prog 49 #[.agg #[.int .u8 t.kind, .string t.name, .slice t.addr t.els.length t.cap]] V (Copied t V)) := Lib.hid (by
      intro V hV
      have hkeep : ∀ b, S b → V.heap[b]? = w.heap[b]? := fun b hb => by
        obtain ⟨h1, h2, _⟩ := HA.out.2.2.2.2.1 _ hb
        have hsz := HG.out.2.1.size
        simp only [World.size_alloc] at hsz
        have hn1 : b ≠ k.loc := fun e => by rw [e, HK.out.tg] at h2; cases h2
        rw [hV.block b (by omega), hX, set_heap _ _ _ _ _ hn1, HG.out.2.1.block b (by simp; omega) (fun e => by rw [HK.out.ot _ e.symm] at h2; cases h2), Below.heap_alloc _ _ _ (by omega)]
        exact HB3.out.1.block b h1
      refine HA.out.2.2.2.2.2 V S (HA.out.2.2.2.1.keep (fun b hb => hb) fun p hp => ?_) fun b hb => ?_
      · exact World.cell?_of_block (hkeep p.block hp)
      · have h1 := (HA.out.2.2.2.2.1 _ hb)
        have hsz := HG.out.2.1.size
        simp only [World.size_alloc] at hsz
        have := hV.size
        exact ⟨by omega, h1.2.2.keep (hkeep b hb)⟩)
    have HX := Lib.hid (And.intro hX hXs)
    clear hX hXs d0' df' dm' t0 t1 t2 hnk hkn
    have mb := (Below.refl X.heap.size X).drew
    have HMP : Hid (X.heap[k.mp]? = some (.map (ents k.names) k.names.length)) := Lib.hid (by
      have hml := (Array.getElem?_eq_some_iff.1 HK.out.mp).1
      have hne : k.mp ≠ k.loc := fun e => by have h1 := HK.out.tg; rw [← e, HK.out.mt] at h1; cases h1
      rw [HX.out.1, set_heap _ _ _ _ _ hne, HG.out.2.1.block k.mp (by simp; omega) (fun e => by have h1 := HK.out.ot _ e.symm; rw [HK.out.mt] at h1; cases h1), Below.heap_alloc _ _ _ (by omega), HB3.out.1.block _ hml]
      exact HK.out.mp)
    have lm0 : k.loc < X.heap.size := World.block_lt_of_cell? _ _ m0
    have lm1 : w.heap.size < X.heap.size := World.block_lt_of_cell? _ _ m1
    have HS : Hid (∀ V, Near k.mp X V → V.cell? ⟨k.loc, 1, none⟩ = some (.map (some k.mp)) ∧ V.cell? ⟨w.heap.size, 0, none⟩ = some (.int .u8 t.kind) ∧ V.cell? ⟨w.heap.size, 1, none⟩ = some (.string t.name) ∧ V.cell? ⟨w.heap.size, 2, none⟩ = some (.slice t.addr t.els.length t.cap)) := Lib.hid fun V hV => by
      have hne : k.loc ≠ k.mp := fun e => by have h1 := HK.out.tg; rw [e, HK.out.mt] at h1; cases h1
      have hmw : w.heap.size ≠ k.mp := fun e => by have := (Array.getElem?_eq_some_iff.1 HK.out.mp).1; omega
      exact ⟨(World.cell?_of_block (hV.2 _ lm0 hne)).trans m0, (World.cell?_of_block (hV.2 _ lm1 hmw)).trans m1, (World.cell?_of_block (hV.2 _ lm1 hmw)).trans m2, (World.cell?_of_block (hV.2 _ lm1 hmw)).trans m3⟩
    go_region_held3 (fun V => V.cell? ⟨k.loc, 1, none⟩ = some (.map (some k.mp)) ∧ V.cell? ⟨w.heap.size, 0, none⟩ = some (.int .u8 t.kind) ∧ V.cell? ⟨w.heap.size, 1, none⟩ = some (.string t.name) ∧ V.cell? ⟨w.heap.size, 2, none⟩ = some (.slice t.addr t.els.length t.cap))
      (first | exact HS.out _ (near_below (by assumption)) | exact HS.out _ (near_alloc (by assumption)) | exact HS.out _ (near_put (by assumption)))
      (first | (go_at_call 49; refine (HCC.out _ (by assumption)).mono ?_; intro e w' hc; obtain ⟨t', he, hc1, hc2, hc3⟩ := hc; subst he; have hbx : Below X.heap.size X w' := below_more (by assumption) hc3; have HC1 := Lib.hid (And.intro hc1 (And.intro hc2 hc3)); clear hc1 hc2 hc3
                have hup := run_mapUpdate_at (P := Tryz.prog) 113 9 63 (w'.alloc (.cells #[.int .u8 t'.kind, .string t'.name, .slice t'.addr t'.els.length t'.cap, .bool false] 75)) k.mp (ents k.names) k.names.length name (.pointer (some ⟨w'.heap.size, 0, none⟩)) Tryz.underlying113 Tryz.underlying9 (by rw [Below.heap_alloc _ _ _ (Nat.lt_of_lt_of_le (Array.getElem?_eq_some_iff.1 HMP.out).1 hbx.size), hbx.block _ (Array.getElem?_eq_some_iff.1 HMP.out).1]; exact HMP.out) (look_no HA.out.1)
                unfold Ty.val Ty.row))
    go_wp2_with fail
    go_ret
    obtain ⟨hsm, hin', hbl'⟩ := HC1.out
    have hxs : X.heap.size = w4.heap.size := HX.out.2
    have hws : w4.heap.size ≤ w'.heap.size := by have := hbx.size; omega
    have hsz := HG.out.2.1.size
    simp only [World.size_alloc] at hsz
    have hmk : k.mp < w.heap.size := (H.out.lt _ (by rw [HK.out.mt]; simp)).2
    have hs3 := HG.out.2.2.2.1
    obtain ⟨tag', h1, h2⟩ := Scp.add H.out name HA.out.1 HA.out.2.1 75 (t' := t') (m := w'.heap.size) (HB3.out.1.alloc (by omega) (.cells #[.string name] 9)) HG.out.2.1 HG.out.1
      (fun b hb => (HG.out.2.2.1 b hb).imp id (fun h => by have := World.size_alloc w2 (.cells #[.string name] 9); omega))
      (W7 := (w'.alloc (.cells #[.int .u8 t'.kind, .string t'.name, .slice t'.addr t'.els.length t'.cap, .bool false] 75)).putObj k.mp (.map ((ents k.names).push { key := .string name, val := .pointer (some ⟨w'.heap.size, 0, none⟩), born := k.names.length }) (k.names.length + 1)))
      (by rw [World.putObj_heap_same (by simp; omega), ← ents_push]) (by rw [World.putObj_heap_other (by omega)]; exact World.alloc_heap_new _ _) hws
      (fun b hb hne => by rw [World.putObj_heap_other hne, Below.heap_alloc _ _ _ (by omega), hbx.block b (by omega), HX.out.1])
      (hin'.1.keep (fun b hb => ⟨by have : X.heap.size ≤ b := hb.1; omega, by rw [World.putObj_size]; simp; have := hb.2.1; omega, by have := hb.2.1; omega, hb.2.2.keep (by have h3 : X.heap.size ≤ b := hb.1; have h4 := hb.2.1; rw [World.putObj_heap_other (by omega), Below.heap_alloc _ _ _ (by omega)])⟩) (fun p hp => World.cell?_of_block (by
        have h3 : X.heap.size ≤ p.block := hp.1; have h4 := hp.2.1
        rw [World.putObj_heap_other (by omega), Below.heap_alloc _ _ _ (by omega)])))
      (by rw [World.putObj_size]; simp; omega)
      (by
        have q1 := HX.out.1
        subst q1
        exact ⟨hbx.os.trans (HG.out.2.1.os.trans HB3.out.1.os), hbx.tape.trans (HG.out.2.1.tape.trans HB3.out.1.tape), hbx.output.trans (HG.out.2.1.output.trans HB3.out.1.output)⟩)
    exact ⟨rfl, tag', t', w'.heap.size, _, h1, hsm, h2⟩
end Go.Proofs.YtfpjleabmemieaaGreat
