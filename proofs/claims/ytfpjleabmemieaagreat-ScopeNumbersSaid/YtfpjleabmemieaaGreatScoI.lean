/- Look and Use: the memory's side; what is found; tell. -/
import Derived.Test.YtfpjleabmemieaaGreatScoH
set_option maxRecDepth 100000
namespace ScoT
open Go Go.RowKit
set_option linter.unusedVariables false
/-- The innermost of the first n blocks that has a name, and its place there. -/
def seekTo (s : ByteArray) (bs : List Bk) : Nat → Option (Nat × Nat)
  | 0 => none
  | n + 1 => match bs[n]? with
    | some k => (match findN s k.names with | some j => some (n, j) | none => seekTo s bs n)
    | none => seekTo s bs n
def seek (s : ByteArray) (bs : List Bk) : Option (Nat × Nat) := seekTo s bs bs.length
theorem seekTo_some {s : ByteArray} {bs : List Bk} {n i j : Nat} (h : seekTo s bs n = some (i, j)) : ∃ k m, bs[i]? = some k ∧ findN s k.names = some j ∧ k.names[j]? = some m ∧ m.name = s := by
  induction n with
  | zero => cases h
  | succ n ih =>
    simp only [seekTo] at h
    cases hk : bs[n]? with
    | none => rw [hk] at h; exact ih h
    | some k =>
      rw [hk] at h
      cases hf : findN s k.names with
      | none => simp only [hf] at h; exact ih h
      | some q =>
        simp only [hf, Option.some.injEq, Prod.mk.injEq] at h
        obtain ⟨rfl, rfl⟩ := h
        obtain ⟨m, h1, h2⟩ := findYtfpjleabmemieaaGreatsome hf
        exact ⟨k, m, hk, hf, h1, h2⟩
/-- The innermost i blocks lack the name. -/
def lacks (s : ByteArray) (bs : List Bk) (i : Nat) : Prop := ∀ j k, j < i → bs[bs.length - 1 - j]? = some k → findN s k.names = none
theorem seekTo_lacks {s : ByteArray} {bs : List Bk} {i : Nat} (h : lacks s bs i) (hi : i ≤ bs.length) : seek s bs = seekTo s bs (bs.length - i) := by
  induction i with
  | zero => rfl
  | succ i ih =>
    rw [ih (fun j k hj hk => h j k (by omega) hk) (by omega)]
    have e : bs.length - i = (bs.length - (i + 1)) + 1 := by omega
    rw [e]
    simp only [seekTo]
    cases hk : bs[bs.length - (i + 1)]? with
    | none => rfl
    | some k =>
      have := h i k (by omega) (by rw [show bs.length - 1 - i = bs.length - (i + 1) by omega]; exact hk)
      simp only [this]
theorem seek_none {s : ByteArray} {bs : List Bk} (h : lacks s bs bs.length) : seek s bs = none := by
  rw [seekTo_lacks h (Nat.le_refl _), Nat.sub_self]; rfl
theorem seek_here {s : ByteArray} {bs : List Bk} {i j : Nat} {k : Bk} (h : lacks s bs i) (hi : i < bs.length) (hk : bs[bs.length - 1 - i]? = some k) (hj : findN s k.names = some j) : seek s bs = some (bs.length - 1 - i, j) := by
  rw [seekTo_lacks h (by omega)]
  have e : bs.length - i = (bs.length - 1 - i) + 1 := by omega
  rw [e]
  simp only [seekTo, hk, hj]
theorem lacks_succ {s : ByteArray} {bs : List Bk} {i : Nat} {k : Bk} (h : lacks s bs i) (hi : i < bs.length) (hk : bs[bs.length - 1 - i]? = some k) (hf : findN s k.names = none) : lacks s bs (i + 1) := fun j q hj hq => by
  by_cases e : j = i
  · subst e
    rw [hk] at hq; cases hq; exact hf
  · exact h j q (by omega) hq
def locOf (bs : List Bk) (i : Nat) : Nat := match bs[bs.length - 1 - i]? with | some k => k.loc | none => 0
theorem below_set {B : Nat} {w W : World} (h : Below B w W) (a : Addr) (v : Value) : Below B (w.setCell a v) (W.setCell a v) :=
  ⟨h.os, h.tape, h.output, by rw [show (w.setCell a v).heap.size = w.heap.size from by simp [World.setCell], show (W.setCell a v).heap.size = W.heap.size from by simp [World.setCell]]; exact h.size, fun k hk => by
    show (W.heap.modify a.block _)[k]? = (w.heap.modify a.block _)[k]?
    rw [Array.getElem?_modify, Array.getElem?_modify, h.block k hk]⟩
theorem put_cell (W : World) (l : Nat) (o : Obj) {p : Addr} (h : p.block ≠ l) : (W.putObj l o).cell? p = W.cell? p := World.cell?_of_block (World.putObj_heap_other h)
theorem alloc4' (w : World) (a b c d : Obj) : ((((w.alloc a).alloc b).alloc c).alloc d).heap[w.heap.size + 1 + 1]? = some c ∧ ((((w.alloc a).alloc b).alloc c).alloc d).heap[w.heap.size + 1 + 1 + 1]? = some d := by
  refine ⟨?_, ?_⟩
  · rw [Below.heap_alloc _ _ _ (by simp)]
    have := World.alloc_heap_new ((w.alloc a).alloc b) c
    simpa using this
  · have := World.alloc_heap_new (((w.alloc a).alloc b).alloc c) d
    simpa using this
end ScoT
namespace Go.Proofs.YtfpjleabmemieaaGreat
open Go.Instr Go.RowKit Go.Shelf ScoT
set_option linter.unusedVariables false
attribute [local go_sem] Oper.semAt_some
theorem heedL_any (p : Option Addr) (w : World) : Calls Tryz.prog 32 #[.pointer p] w fun e w' => e = .returned (.tuple #[]) ∧ w' = w := by
  go_enter Tryz.func32, Tryz.ntmps32
  go_wp2_with fail
  go_end0
  exact ⟨rfl, rfl⟩
theorem heedU_any (b : Nat) (v : Value) (w : World) (h : w.cell? ⟨b, 3, none⟩ = some v) (hf : w.frozen? ⟨b, 3, none⟩ = false) : Calls Tryz.prog 41 #[.pointer (some ⟨b, 0, none⟩)] w fun e w' => e = .returned (.tuple #[]) ∧ w' = w.setCell ⟨b, 3, none⟩ (.bool true) := by
  go_enter Tryz.func41, Tryz.ntmps41
  go_wp2_with fail
  go_end0
  exact ⟨rfl, rfl⟩
def Copies (t : Ty) : Prop := ∀ (w : World) (S : Nat → Prop), In w S t → (∀ b, S b → b < w.heap.size ∧ Plain w b) → Calls Tryz.prog 49 #[t.val] w (Copied t w)
theorem copies_leaf {t : Ty} (h : leaf t) : Copies t := fun w S hin _ => copied_leaf t w hin.fits h
/-- What tell leaves. -/
def after (u : Bool) (w : World) (b : Nat) : World := if u then w.setCell ⟨b, 3, none⟩ (.bool true) else w
def TellPost (u : Bool) (name : ByteArray) (bs : List Bk) (w : World) (e : Ending) (w' : World) : Prop :=
  match seek name bs with
  | none => e = .returned (.tuple #[zeroTy.val, .bool false]) ∧ Below w.heap.size w w'
  | some (i, j) => ∃ k m t', bs[i]? = some k ∧ k.names[j]? = some m ∧ e = .returned (.tuple #[t'.val, .bool true]) ∧ same m.ty t' = true ∧ InO 26 w' w.heap.size t' ∧ Below w.heap.size (after u w m.loc) w'
variable {w : World} {tag : Nat → Tag} {n₀ s : Nat} {A : Option Addr} {cap : Nat} {bs : List Bk}
/-- What has come when a round returns. -/
def Told (u : Bool) (name : ByteArray) (bs : List Bk) (n : Nat) (w W4 W : World) : Prop := ∃ i j k m t', seek name bs = some (i, j) ∧ bs[i]? = some k ∧ k.names[j]? = some m ∧ same m.ty t' = true ∧ InO 26 W (W4.heap.size + 2) t' ∧ Below n (after u w m.loc) W ∧
      W.cell? ⟨n + 1 + 1, 0, none⟩ = some (.int .u8 t'.kind) ∧ W.cell? ⟨n + 1 + 1, 1, none⟩ = some (.string t'.name) ∧ W.cell? ⟨n + 1 + 1, 2, none⟩ = some (.slice t'.addr t'.els.length t'.cap) ∧ W.cell? ⟨n + 1 + 1 + 1, 0, none⟩ = some (.bool true)
theorem tell_end {u : Bool} {name : ByteArray} {W4 W X W' : World} {n i j : Nat} {k : Bk} {m : Nm} {t' : Ty} (hD : W4.heap.size = n + 4) (hsW : W4.heap.size + 2 ≤ X.heap.size) (hsk : seek name bs = some (i, j)) (hk : bs[i]? = some k) (hm : k.names[j]? = some m)
    (hsm : same m.ty t' = true) (hX : X.heap[W4.heap.size]? = W.heap[W4.heap.size]? ∧ X.heap[W4.heap.size + 1]? = W.heap[W4.heap.size + 1]?) (hin : InO 26 W' X.heap.size t') (hb : Below X.heap.size X W') (hr : Cs3 W' (n + 1 + 1) (.int .u8 0) (.string ⟨#[]⟩) (.slice none 0 0)) (hg : W'.cell? ⟨n + 1 + 1 + 1, 0, none⟩ = some (.bool false)) (hw : Below n (after u w m.loc) X) :
    ((((W'.setCell ⟨n + 1 + 1, 0, none⟩ (.int .u8 t'.kind)).setCell ⟨n + 1 + 1, 1, none⟩ (.string t'.name)).setCell ⟨n + 1 + 1, 2, none⟩ (.slice t'.addr t'.els.length t'.cap)).setCell ⟨n + 1 + 1 + 1, 0, none⟩ (.bool true)).heap[W4.heap.size]? = W.heap[W4.heap.size]? ∧
    ((((W'.setCell ⟨n + 1 + 1, 0, none⟩ (.int .u8 t'.kind)).setCell ⟨n + 1 + 1, 1, none⟩ (.string t'.name)).setCell ⟨n + 1 + 1, 2, none⟩ (.slice t'.addr t'.els.length t'.cap)).setCell ⟨n + 1 + 1 + 1, 0, none⟩ (.bool true)).heap[W4.heap.size + 1]? = W.heap[W4.heap.size + 1]? ∧
    Told u name bs n w W4 ((((W'.setCell ⟨n + 1 + 1, 0, none⟩ (.int .u8 t'.kind)).setCell ⟨n + 1 + 1, 1, none⟩ (.string t'.name)).setCell ⟨n + 1 + 1, 2, none⟩ (.slice t'.addr t'.els.length t'.cap)).setCell ⟨n + 1 + 1 + 1, 0, none⟩ (.bool true)) := by
  obtain ⟨r0, r1, r2⟩ := hr
  have sh : ∀ b, n + 4 ≤ b → ((((W'.setCell ⟨n + 1 + 1, 0, none⟩ (.int .u8 t'.kind)).setCell ⟨n + 1 + 1, 1, none⟩ (.string t'.name)).setCell ⟨n + 1 + 1, 2, none⟩ (.slice t'.addr t'.els.length t'.cap)).setCell ⟨n + 1 + 1 + 1, 0, none⟩ (.bool true)).heap[b]? = W'.heap[b]? := fun b hb => by
    rw [set_heap _ _ _ _ _ (by omega), set_heap _ _ _ _ _ (by omega), set_heap _ _ _ _ _ (by omega), set_heap _ _ _ _ _ (by omega)]
  refine ⟨?_, ?_, i, j, k, m, t', hsk, hk, hm, hsm, ?_, ?_, ?_, ?_, ?_, ?_⟩
  · rw [sh _ (by omega), hb.block _ (by omega)]; exact hX.1
  · rw [sh _ (by omega), hb.block _ (by omega)]; exact hX.2
  · exact hin.keep hsW (by simp only [set_size]; exact Nat.le_refl _) (fun b h1 h2 => sh b (by omega))
  · have h1 : Below n (after u w m.loc) W' := hw.trans (hb.mono (by omega))
    exact (((h1.setCell (p := ⟨n + 1 + 1, 0, none⟩) (by show _ ≤ _ + 1 + 1; omega) _).setCell (p := ⟨n + 1 + 1, 1, none⟩) (by show _ ≤ _ + 1 + 1; omega) _).setCell (p := ⟨n + 1 + 1, 2, none⟩) (by show _ ≤ _ + 1 + 1; omega) _).setCell (p := ⟨n + 1 + 1 + 1, 0, none⟩) (by show _ ≤ _ + 1 + 1 + 1; omega) _
  all_goals simp [go_sem, r0, r1, r2, hg]
set_option maxHeartbeats 2000000 in
theorem tell_anyL (name : ByteArray) (h : SC w tag n₀ s A cap bs) (hl : bs.length ≤ 1000000) (hcop : ∀ k ∈ bs, ∀ m ∈ k.names, Copies m.ty) :
    Calls Tryz.prog 31 #[.pointer (some ⟨s, 0, none⟩), .string name, .func (.func 32) #[] #[]] w (TellPost false name bs w) := by
  have H := Lib.hid h
  have hs := h.s_lt
  obtain ⟨W4, hW4⟩ : ∃ W4, W4 = (((w.alloc (.cells #[.string name] 9)).alloc (.cells #[.func (.func 32) #[] #[]] 64)).alloc (.cells #[.int .u8 0, .string ⟨#[]⟩, .slice none 0 0] 26)).alloc (.cells #[.bool false] 4) := ⟨_, rfl⟩
  have ha := alloc4 w (.cells #[.string name] 9) (.cells #[.func (.func 32) #[] #[]] 64) (.cells #[.int .u8 0, .string ⟨#[]⟩, .slice none 0 0] 26) (.cells #[.bool false] 4)
  have ha2 := alloc4' w (.cells #[.string name] 9) (.cells #[.func (.func 32) #[] #[]] 64) (.cells #[.int .u8 0, .string ⟨#[]⟩, .slice none 0 0] 26) (.cells #[.bool false] 4)
  rw [← hW4] at ha ha2
  have hb4 : Below w.heap.size w W4 := by rw [hW4]; exact ((((Below.refl _ w).alloc (Nat.le_refl _) _).alloc (by simp) _).alloc (by simp; omega) _).alloc (by simp; omega) _
  have hs4 : W4.heap.size = w.heap.size + 4 := by rw [hW4]; simp
  have c0 : W4.cell? ⟨s, 0, none⟩ = some (.slice A bs.length cap) := (hb4.cell (p := ⟨s, 0, none⟩) hs).trans h.c0
  have c1 : W4.cell? ⟨s, 1, none⟩ = some (.pointer (some ⟨s, 0, none⟩)) := (hb4.cell (p := ⟨s, 1, none⟩) hs).trans h.c1
  have HW := Lib.hid (And.intro hb4 (And.intro hs4 (And.intro ha ha2)))
  have HW4 := Lib.hid hW4
  clear h ha ha2 hb4 hs4 hW4
  refine (callsIn_wide (n := 4)).1 ?_
  refine callsIn_of_wp_marks Tryz.func31 rfl trivial ?_ rfl
  simp only [Tryz.ntmps31, List.size_toArray, List.length_cons, List.length_nil, Nat.reduceAdd, Nat.reduceSub, Array.replicate_succ, Array.replicate_zero, List.push_toArray, List.append_toArray, List.nil_append, List.cons_append]
  gi_wp2_with (refine ⟨trivial, ?_⟩; gi_at_call 30; rw [← HW4.out]; refine (callsIn_wide.2 (isMade_yes s _ c1)).mono ?_; rintro e W4 ⟨rfl, rfl⟩)
  have hD : W4.heap.size = w.heap.size + 4 := HW.out.2.1
  have hlt4 : ∀ {p : Addr} {v : Value}, w.cell? p = some v → W4.cell? p = some v := fun {p v} hv => (HW.out.1.cell (World.block_lt_of_cell? _ _ hv)).trans hv
  have hrow : ∀ i, i < bs.length → ∃ g, A = some ⟨g, 0, none⟩ ∧ W4.cell? ⟨g, bs.length - 1 - i, none⟩ = some (.pointer (some ⟨locOf bs i, 0, none⟩)) := fun i hi => by
    have ho := H.out.own
    obtain ⟨g, c, hv⟩ := own_slice ho (by omega)
    injection hv with h1 _ _
    subst h1
    obtain ⟨k, hk⟩ : ∃ k, bs[bs.length - 1 - i]? = some k := ⟨_, List.getElem?_eq_getElem (by omega)⟩
    refine ⟨g, rfl, ?_⟩
    have := hlt4 (row_ptr ho hk)
    simpa [locOf, hk] using this
  refine range_bound rfl (by omega) (gf := 48) (bound := #[.slice A bs.length cap]) rfl trivial (enters_of Tryz.func48 (by kernel_rfl) rfl) bs.length (fun i => .pointer (some ⟨locOf bs i, 0, none⟩)) rfl
    (fun l J Jx W hJ hY h0 => outward_in Fence.wide _ trivial rfl (by omega) A bs.length cap hl (locOf bs) W4 hrow l J Jx W hJ hY h0)
    (lacks name bs) (fun j k hj => absurd hj (Nat.not_lt_zero _))
    (fun W => Told false name bs w.heap.size w W4 W)
    ?fin (fun i => { tmps := #[.pointer (some ⟨s, 0, none⟩), .string name, .func (.func 32) #[] #[], undef, .pointer (some ⟨w.heap.size, 0, none⟩), .pointer (some ⟨w.heap.size + 1, 0, none⟩), .pointer (some ⟨w.heap.size + 1 + 1, 0, none⟩), .pointer (some ⟨w.heap.size + 1 + 1 + 1, 0, none⟩),
      .pointer (some ⟨locOf bs i, 0, none⟩), undef, undef, .pointer (some ⟨s, 0, none⟩), .bool true, .bool false, undef, .pointer (some ⟨s, 0, none⟩), .pointer (some ⟨s, 0, none⟩), .pointer (some ⟨s, 0, none⟩), .slice A bs.length cap, .func (.func 48) #[.slice A bs.length cap] #[], .pointer (some ⟨locOf bs i, 0, none⟩),
      undef, undef, undef, undef, undef, undef, undef, undef, undef, undef, undef, undef, undef, undef, undef, undef, undef, undef, undef], defers := [] }) ?assign ?body ?done ?stop
  case assign =>
    intro i W K hK
    gi_wp2
    exact hK
  case fin =>
    rintro W o hlt ⟨i, j, k, m, t', hsk, hbi, hkj, hsame, hin, hbw, d0, d1, d2, d3⟩
    refine ⟨i, j, k, m, t', hsk, hbi, hkj, hsame, hin.keep (Nat.le_refl _) (by rw [World.putObj_size]; exact Nat.le_refl _) (fun b h1 h2 => World.putObj_heap_other (by omega)), below_put hbw (by omega) _, ?_, ?_, ?_, ?_⟩
    · rw [put_cell _ _ _ (by show _ + 1 + 1 ≠ _; omega)]; exact d0
    · rw [put_cell _ _ _ (by show _ + 1 + 1 ≠ _; omega)]; exact d1
    · rw [put_cell _ _ _ (by show _ + 1 + 1 ≠ _; omega)]; exact d2
    · rw [put_cell _ _ _ (by show _ + 1 + 1 + 1 ≠ _; omega)]; exact d3
  case body =>
    intro i W hp hi hbW hsW
    obtain ⟨k, hk⟩ : ∃ k, bs[bs.length - 1 - i]? = some k := ⟨_, List.getElem?_eq_getElem (by omega)⟩
    have hloc : locOf bs i = k.loc := by simp [locOf, hk]
    rw [hloc]
    have hkm := H.out.bk _ k hk
    have lift : ∀ {p : Addr} {v : Value}, w.cell? p = some v → W.cell? p = some v := fun {p v} hv => (hbW.cell (World.block_lt_of_cell? _ _ (hlt4 hv))).trans (hlt4 hv)
    have d0 : W.cell? ⟨w.heap.size, 0, none⟩ = some (.string name) := by
      refine (hbW.cell (p := ⟨w.heap.size, 0, none⟩) (by show w.heap.size < _; omega)).trans ?_
      simp [World.cell?, HW.out.2.2.1.1]
    have dh : W.cell? ⟨w.heap.size + 1, 0, none⟩ = some (.func (.func 32) #[] #[]) := by
      refine (hbW.cell (p := ⟨w.heap.size + 1, 0, none⟩) (by show w.heap.size + 1 < _; omega)).trans ?_
      simp [World.cell?, HW.out.2.2.1.2.1]
    have d1 : W.cell? ⟨k.loc, 1, none⟩ = some (.map (some k.mp)) := lift hkm.c1
    have hmp : W.heap[k.mp]? = some (.map (ents k.names) k.names.length) := by
      have h1 := (Array.getElem?_eq_some_iff.1 hkm.mp).1
      rw [hbW.block _ (by omega), HW.out.1.block _ h1]; exact hkm.mp
    cases hf : findN name k.names with
    | none =>
      have hlk : ∀ W' : World, W'.heap = W.heap → (lookup 113 (.map (some k.mp)) (.string name) true).run Tryz.prog W' = .ok (.tuple #[.pointer none, .bool false]) W' := fun W' hW' =>
        run_lookup_not true 113 9 63 W' k.mp (ents k.names) k.names.length name (.pointer none) Tryz.underlying113 Tryz.underlying9 (by rw [hW']; exact hmp) (Tryz.zeroValue63 _) (look_no hf)
      have l0 := hlk W rfl
      have l1 := hlk W.drew rfl
      have l2 := fun q => hlk (W.drewN q) rfl
      clear hlk
      have hd : 1 ≤ 4 - 1 - 1 := by omega
      have hmx : Tryz.prog.follows .mixedOrders = true := by kernel_rfl
      have HP := Lib.hid (And.intro hp (And.intro hbW hmp))
      clear hp hbW hmp lift hrow hkm
      gi_wp2
      gi_region_with_o (fail)
      all_goals gi_wp2
      all_goals exact ⟨(Below.refl _ _).drew, lacks_succ HP.out.1 (by omega) hk hf⟩
    | some j =>
      obtain ⟨m, hm, hmn⟩ := findYtfpjleabmemieaaGreatsome hf
      have hM := hkm.ms j m hm
      have hlk : ∀ W' : World, W'.heap = W.heap → (lookup 113 (.map (some k.mp)) (.string name) true).run Tryz.prog W' = .ok (.tuple #[.pointer (some ⟨m.loc, 0, none⟩), .bool true]) W' := fun W' hW' =>
        run_lookup_there true 113 9 63 W' k.mp (ents k.names) k.names.length name j _ Tryz.underlying113 Tryz.underlying9 (by rw [hW']; exact hmp) (look_ents hf hm)
      have l0 := hlk W rfl
      have l1 := hlk W.drew rfl
      have m0 := lift hM.c0
      have m1 := lift hM.c1
      have m2 := lift hM.c2
      have hd : 1 ≤ 4 - 1 - 1 := by omega
      have hmx : Tryz.prog.follows .mixedOrders = true := by kernel_rfl
      have HC := Lib.hid (hcop k (List.mem_of_getElem? hk) m (List.mem_of_getElem? hm))
      have HIN : Hid (In W.drew (fun b => b < w.heap.size ∧ Plain W.drew b) m.ty) := Lib.hid (hM.ty.keep (fun b hb => ⟨(H.out.lt b (by rw [hb]; simp)).2, (H.out.pl b hb).keep (by have hl := (H.out.lt b (by rw [hb]; simp)).2; exact (hbW.block b (by omega)).trans (HW.out.1.block b hl))⟩) (fun p hp => by
        have hl := (H.out.lt p.block (by rw [hp]; simp)).2
        exact (hbW.cell (p := p) (by omega)).trans (HW.out.1.cell hl)))
      have HP := Lib.hid (And.intro hp (And.intro hbW hmp))
      have HM := Lib.hid hM
      clear hp hbW hmp lift hrow hkm hlk hM
      have HE : Hid (W.heap[w.heap.size + 1 + 1]? = some (.cells #[.int .u8 0, .string ⟨#[]⟩, .slice none 0 0] 26) ∧ W.heap[w.heap.size + 1 + 1 + 1]? = some (.cells #[.bool false] 4)) := Lib.hid ⟨(HP.out.2.1.block _ (by omega)).trans HW.out.2.2.2.1, (HP.out.2.1.block _ (by omega)).trans HW.out.2.2.2.2⟩
      gi_wp2
      rename_i K1 hK1
      have key : K1 { tmps := #[.pointer (some ⟨s, 0, none⟩), .string name, .func (.func 32) #[] #[], undef, .pointer (some ⟨w.heap.size, 0, none⟩), .pointer (some ⟨w.heap.size + 1, 0, none⟩), .pointer (some ⟨w.heap.size + 1 + 1, 0, none⟩), .pointer (some ⟨w.heap.size + 1 + 1 + 1, 0, none⟩),
          .pointer (some ⟨k.loc, 0, none⟩), .pointer (some ⟨m.loc, 0, none⟩), .bool true, .pointer (some ⟨s, 0, none⟩), .bool true, .bool false, undef, .pointer (some ⟨s, 0, none⟩), .pointer (some ⟨s, 0, none⟩), .pointer (some ⟨s, 0, none⟩), .slice A bs.length cap, .func (.func 48) #[.slice A bs.length cap] #[], .pointer (some ⟨k.loc, 0, none⟩),
          .tuple #[.pointer (some ⟨m.loc, 0, none⟩), .bool true], .pointer (some ⟨k.loc, 0, none⟩), .pointer (some ⟨k.loc, 0, none⟩), .pointer (some ⟨k.loc, 1, none⟩), .map (some k.mp), .string name, .tuple #[.pointer (some ⟨m.loc, 0, none⟩), .bool true], .pointer (some ⟨m.loc, 0, none⟩), .bool true, undef, undef, undef, undef, undef, undef, undef, undef, undef, undef], defers := [] } W.drew := by
        apply hK1
        clear l0 l1
        gi_wp2_with (first
          | (refine ⟨trivial, ?_⟩; gi_at_call 32; refine (CallsIn.inRound _ (callsIn_wide.2 (heedL_any _ _))).mono ?_; rintro e w' ⟨rfl, rfl⟩)
          | (refine ⟨trivial, ?_⟩; gi_at_call 49; refine (CallsIn.inRound _ (callsIn_wide.2 (HC.out _ _ HIN.out (fun b hb => ⟨by have := hsW; have := hb.1; simp; omega, hb.2⟩)))).mono ?_; rintro e w' ⟨t', rfl, hc⟩
             obtain ⟨⟨r0, r1, r2⟩, rf⟩ := cs3_of ((hc.2.2.block (w.heap.size + 1 + 1) (by simp; omega)).trans HE.out.1)
             have g0 : w'.cell? ⟨w.heap.size + 1 + 1 + 1, 0, none⟩ = some (.bool false) := by
               have := (hc.2.2.block (w.heap.size + 1 + 1 + 1) (by simp; omega)).trans HE.out.2
               simp [World.cell?, this]
             have gf : w'.frozen? ⟨w.heap.size + 1 + 1 + 1, 0, none⟩ = false := by
               have := (hc.2.2.block (w.heap.size + 1 + 1 + 1) (by simp; omega)).trans HE.out.2
               simp [World.frozen?, this]
             have HC' := Lib.hid hc; clear hc; unfold Ty.val Ty.row))
        obtain ⟨hsm, hin', hb'⟩ := HC'.out
        exact tell_end (u := false) (X := W.drew) (W := W) hD hsW (seek_here HP.out.1 (by omega) hk hf) hk hm hsm ⟨rfl, rfl⟩ hin' hb' ⟨r0, r1, r2⟩ g0 (HW.out.1.trans (HP.out.2.1.mono (by omega))).drew
      gi_region_with_o (fail)
      all_goals exact key
  case done =>
    intro W hp hbW hK
    have e2 := cs3_of ((hbW.block _ (by omega)).trans HW.out.2.2.2.1)
    have e3 := (hbW.block _ (by omega)).trans HW.out.2.2.2.2
    obtain ⟨⟨d0, d1, d2⟩, df⟩ := e2
    have g0 : W.cell? ⟨w.heap.size + 1 + 1 + 1, 0, none⟩ = some (.bool false) := by simp [World.cell?, e3]
    have gf : W.frozen? ⟨w.heap.size + 1 + 1 + 1, 0, none⟩ = false := by simp [World.frozen?, e3]
    have HP := Lib.hid (And.intro hp (And.intro hbW hK))
    clear hp hbW hK e3 hrow
    gi_wp2
    have hK : ((((W.setCell ⟨w.heap.size + 1 + 1, 0, none⟩ (.int .u8 0)).setCell ⟨w.heap.size + 1 + 1, 1, none⟩ (.string ⟨#[]⟩)).setCell ⟨w.heap.size + 1 + 1, 2, none⟩ (.slice none 0 0)).setCell ⟨w.heap.size + 1 + 1 + 1, 0, none⟩ (.bool false)).heap[W4.heap.size]? = some (.deferred (some [])) := by
      rw [set_heap _ _ _ _ _ (by omega), set_heap _ _ _ _ _ (by omega), set_heap _ _ _ _ _ (by omega), set_heap _ _ _ _ _ (by omega)]; exact HP.out.2.2
    refine ⟨by simp, .inl ⟨_, _, rfl, run_takeDeferred hK, ?_⟩⟩
    have pc : ∀ (p : Addr), p.block < W4.heap.size → (World.putObj ((((W.setCell ⟨w.heap.size + 1 + 1, 0, none⟩ (.int .u8 0)).setCell ⟨w.heap.size + 1 + 1, 1, none⟩ (.string ⟨#[]⟩)).setCell ⟨w.heap.size + 1 + 1, 2, none⟩ (.slice none 0 0)).setCell ⟨w.heap.size + 1 + 1 + 1, 0, none⟩ (.bool false)) W4.heap.size (.deferred none)).cell? p = ((((W.setCell ⟨w.heap.size + 1 + 1, 0, none⟩ (.int .u8 0)).setCell ⟨w.heap.size + 1 + 1, 1, none⟩ (.string ⟨#[]⟩)).setCell ⟨w.heap.size + 1 + 1, 2, none⟩ (.slice none 0 0)).setCell ⟨w.heap.size + 1 + 1 + 1, 0, none⟩ (.bool false)).cell? p := fun p hp => put_cell _ _ _ (by omega)
    have q0 := pc ⟨w.heap.size + 1 + 1, 0, none⟩ (by show _ + 1 + 1 < _; omega)
    have q1 := pc ⟨w.heap.size + 1 + 1, 1, none⟩ (by show _ + 1 + 1 < _; omega)
    have q2 := pc ⟨w.heap.size + 1 + 1, 2, none⟩ (by show _ + 1 + 1 < _; omega)
    have q3 := pc ⟨w.heap.size + 1 + 1 + 1, 0, none⟩ (by show _ + 1 + 1 + 1 < _; omega)
    simp [go_sem, d0, d1, d2, g0] at q0 q1 q2 q3
    refine ⟨.tuple #[zeroTy.val, .bool false], ?_, ?_⟩
    · simp [results, Tryz.results31, go_sem, q0, q1, q2, q3, Ty.val, Ty.row, zeroTy, Ty.kind, Ty.name, Ty.addr, Ty.els, Ty.cap]
    · unfold TellPost
      rw [seek_none HP.out.1]
      refine ⟨rfl, below_put ?_ (by omega) _⟩
      have hb := HW.out.1.trans (HP.out.2.1.mono (by omega))
      exact (((hb.setCell (p := ⟨w.heap.size + 1 + 1, 0, none⟩) (by show _ ≤ _ + 1 + 1; omega) _).setCell (p := ⟨w.heap.size + 1 + 1, 1, none⟩) (by show _ ≤ _ + 1 + 1; omega) _).setCell (p := ⟨w.heap.size + 1 + 1, 2, none⟩) (by show _ ≤ _ + 1 + 1; omega) _).setCell (p := ⟨w.heap.size + 1 + 1 + 1, 0, none⟩) (by show _ ≤ _ + 1 + 1 + 1; omega) _
  case stop =>
    rintro W ⟨i, j, k, m, t', hsk, hbi, hkj, hsame, hin, hbw, d0, d1, d2, d3⟩ hK
    gi_wp2
    refine ⟨by simp, .inl ⟨_, _, rfl, run_takeDeferred hK, ?_⟩⟩
    have q0 := (put_cell W W4.heap.size (.deferred none) (p := ⟨w.heap.size + 1 + 1, 0, none⟩) (by show _ + 1 + 1 ≠ _; omega)).trans d0
    have q1 := (put_cell W W4.heap.size (.deferred none) (p := ⟨w.heap.size + 1 + 1, 1, none⟩) (by show _ + 1 + 1 ≠ _; omega)).trans d1
    have q2 := (put_cell W W4.heap.size (.deferred none) (p := ⟨w.heap.size + 1 + 1, 2, none⟩) (by show _ + 1 + 1 ≠ _; omega)).trans d2
    have q3 := (put_cell W W4.heap.size (.deferred none) (p := ⟨w.heap.size + 1 + 1 + 1, 0, none⟩) (by show _ + 1 + 1 + 1 ≠ _; omega)).trans d3
    refine ⟨.tuple #[t'.val, .bool true], ?_, ?_⟩
    · simp [results, Tryz.results31, go_sem, q0, q1, q2, q3, Ty.val, Ty.row]
    · unfold TellPost
      rw [hsk]
      exact ⟨k, m, t', hbi, hkj, rfl, hsame, hin.keep (by omega) (by rw [World.putObj_size]; exact Nat.le_refl _) (fun b h1 h2 => World.putObj_heap_other (by omega)), below_put hbw (by omega) _⟩
set_option maxHeartbeats 2000000 in
theorem tell_anyU (name : ByteArray) (h : SC w tag n₀ s A cap bs) (hl : bs.length ≤ 1000000) (hcop : ∀ k ∈ bs, ∀ m ∈ k.names, Copies m.ty) :
    Calls Tryz.prog 31 #[.pointer (some ⟨s, 0, none⟩), .string name, .func (.func 41) #[] #[]] w (TellPost true name bs w) := by
  have H := Lib.hid h
  have hs := h.s_lt
  obtain ⟨W4, hW4⟩ : ∃ W4, W4 = (((w.alloc (.cells #[.string name] 9)).alloc (.cells #[.func (.func 41) #[] #[]] 64)).alloc (.cells #[.int .u8 0, .string ⟨#[]⟩, .slice none 0 0] 26)).alloc (.cells #[.bool false] 4) := ⟨_, rfl⟩
  have ha := alloc4 w (.cells #[.string name] 9) (.cells #[.func (.func 41) #[] #[]] 64) (.cells #[.int .u8 0, .string ⟨#[]⟩, .slice none 0 0] 26) (.cells #[.bool false] 4)
  have ha2 := alloc4' w (.cells #[.string name] 9) (.cells #[.func (.func 41) #[] #[]] 64) (.cells #[.int .u8 0, .string ⟨#[]⟩, .slice none 0 0] 26) (.cells #[.bool false] 4)
  rw [← hW4] at ha ha2
  have hb4 : Below w.heap.size w W4 := by rw [hW4]; exact ((((Below.refl _ w).alloc (Nat.le_refl _) _).alloc (by simp) _).alloc (by simp; omega) _).alloc (by simp; omega) _
  have hs4 : W4.heap.size = w.heap.size + 4 := by rw [hW4]; simp
  have c0 : W4.cell? ⟨s, 0, none⟩ = some (.slice A bs.length cap) := (hb4.cell (p := ⟨s, 0, none⟩) hs).trans h.c0
  have c1 : W4.cell? ⟨s, 1, none⟩ = some (.pointer (some ⟨s, 0, none⟩)) := (hb4.cell (p := ⟨s, 1, none⟩) hs).trans h.c1
  have HW := Lib.hid (And.intro hb4 (And.intro hs4 (And.intro ha ha2)))
  have HW4 := Lib.hid hW4
  clear h ha ha2 hb4 hs4 hW4
  refine (callsIn_wide (n := 4)).1 ?_
  refine callsIn_of_wp_marks Tryz.func31 rfl trivial ?_ rfl
  simp only [Tryz.ntmps31, List.size_toArray, List.length_cons, List.length_nil, Nat.reduceAdd, Nat.reduceSub, Array.replicate_succ, Array.replicate_zero, List.push_toArray, List.append_toArray, List.nil_append, List.cons_append]
  gi_wp2_with (refine ⟨trivial, ?_⟩; gi_at_call 30; rw [← HW4.out]; refine (callsIn_wide.2 (isMade_yes s _ c1)).mono ?_; rintro e W4 ⟨rfl, rfl⟩)
  have hD : W4.heap.size = w.heap.size + 4 := HW.out.2.1
  have hlt4 : ∀ {p : Addr} {v : Value}, w.cell? p = some v → W4.cell? p = some v := fun {p v} hv => (HW.out.1.cell (World.block_lt_of_cell? _ _ hv)).trans hv
  have hrow : ∀ i, i < bs.length → ∃ g, A = some ⟨g, 0, none⟩ ∧ W4.cell? ⟨g, bs.length - 1 - i, none⟩ = some (.pointer (some ⟨locOf bs i, 0, none⟩)) := fun i hi => by
    have ho := H.out.own
    obtain ⟨g, c, hv⟩ := own_slice ho (by omega)
    injection hv with h1 _ _
    subst h1
    obtain ⟨k, hk⟩ : ∃ k, bs[bs.length - 1 - i]? = some k := ⟨_, List.getElem?_eq_getElem (by omega)⟩
    refine ⟨g, rfl, ?_⟩
    have := hlt4 (row_ptr ho hk)
    simpa [locOf, hk] using this
  refine range_bound rfl (by omega) (gf := 48) (bound := #[.slice A bs.length cap]) rfl trivial (enters_of Tryz.func48 (by kernel_rfl) rfl) bs.length (fun i => .pointer (some ⟨locOf bs i, 0, none⟩)) rfl
    (fun l J Jx W hJ hY h0 => outward_in Fence.wide _ trivial rfl (by omega) A bs.length cap hl (locOf bs) W4 hrow l J Jx W hJ hY h0)
    (lacks name bs) (fun j k hj => absurd hj (Nat.not_lt_zero _))
    (fun W => Told true name bs w.heap.size w W4 W)
    ?fin (fun i => { tmps := #[.pointer (some ⟨s, 0, none⟩), .string name, .func (.func 41) #[] #[], undef, .pointer (some ⟨w.heap.size, 0, none⟩), .pointer (some ⟨w.heap.size + 1, 0, none⟩), .pointer (some ⟨w.heap.size + 1 + 1, 0, none⟩), .pointer (some ⟨w.heap.size + 1 + 1 + 1, 0, none⟩),
      .pointer (some ⟨locOf bs i, 0, none⟩), undef, undef, .pointer (some ⟨s, 0, none⟩), .bool true, .bool false, undef, .pointer (some ⟨s, 0, none⟩), .pointer (some ⟨s, 0, none⟩), .pointer (some ⟨s, 0, none⟩), .slice A bs.length cap, .func (.func 48) #[.slice A bs.length cap] #[], .pointer (some ⟨locOf bs i, 0, none⟩),
      undef, undef, undef, undef, undef, undef, undef, undef, undef, undef, undef, undef, undef, undef, undef, undef, undef, undef, undef], defers := [] }) ?assign ?body ?done ?stop
  case assign =>
    intro i W K hK
    gi_wp2
    exact hK
  case fin =>
    rintro W o hlt ⟨i, j, k, m, t', hsk, hbi, hkj, hsame, hin, hbw, d0, d1, d2, d3⟩
    refine ⟨i, j, k, m, t', hsk, hbi, hkj, hsame, hin.keep (Nat.le_refl _) (by rw [World.putObj_size]; exact Nat.le_refl _) (fun b h1 h2 => World.putObj_heap_other (by omega)), below_put hbw (by omega) _, ?_, ?_, ?_, ?_⟩
    · rw [put_cell _ _ _ (by show _ + 1 + 1 ≠ _; omega)]; exact d0
    · rw [put_cell _ _ _ (by show _ + 1 + 1 ≠ _; omega)]; exact d1
    · rw [put_cell _ _ _ (by show _ + 1 + 1 ≠ _; omega)]; exact d2
    · rw [put_cell _ _ _ (by show _ + 1 + 1 + 1 ≠ _; omega)]; exact d3
  case body =>
    intro i W hp hi hbW hsW
    obtain ⟨k, hk⟩ : ∃ k, bs[bs.length - 1 - i]? = some k := ⟨_, List.getElem?_eq_getElem (by omega)⟩
    have hloc : locOf bs i = k.loc := by simp [locOf, hk]
    rw [hloc]
    have hkm := H.out.bk _ k hk
    have lift : ∀ {p : Addr} {v : Value}, w.cell? p = some v → W.cell? p = some v := fun {p v} hv => (hbW.cell (World.block_lt_of_cell? _ _ (hlt4 hv))).trans (hlt4 hv)
    have d0 : W.cell? ⟨w.heap.size, 0, none⟩ = some (.string name) := by
      refine (hbW.cell (p := ⟨w.heap.size, 0, none⟩) (by show w.heap.size < _; omega)).trans ?_
      simp [World.cell?, HW.out.2.2.1.1]
    have dh : W.cell? ⟨w.heap.size + 1, 0, none⟩ = some (.func (.func 41) #[] #[]) := by
      refine (hbW.cell (p := ⟨w.heap.size + 1, 0, none⟩) (by show w.heap.size + 1 < _; omega)).trans ?_
      simp [World.cell?, HW.out.2.2.1.2.1]
    have d1 : W.cell? ⟨k.loc, 1, none⟩ = some (.map (some k.mp)) := lift hkm.c1
    have hmp : W.heap[k.mp]? = some (.map (ents k.names) k.names.length) := by
      have h1 := (Array.getElem?_eq_some_iff.1 hkm.mp).1
      rw [hbW.block _ (by omega), HW.out.1.block _ h1]; exact hkm.mp
    cases hf : findN name k.names with
    | none =>
      have hlk : ∀ W' : World, W'.heap = W.heap → (lookup 113 (.map (some k.mp)) (.string name) true).run Tryz.prog W' = .ok (.tuple #[.pointer none, .bool false]) W' := fun W' hW' =>
        run_lookup_not true 113 9 63 W' k.mp (ents k.names) k.names.length name (.pointer none) Tryz.underlying113 Tryz.underlying9 (by rw [hW']; exact hmp) (Tryz.zeroValue63 _) (look_no hf)
      have l0 := hlk W rfl
      have l1 := hlk W.drew rfl
      have l2 := fun q => hlk (W.drewN q) rfl
      clear hlk
      have hd : 1 ≤ 4 - 1 - 1 := by omega
      have hmx : Tryz.prog.follows .mixedOrders = true := by kernel_rfl
      have HP := Lib.hid (And.intro hp (And.intro hbW hmp))
      clear hp hbW hmp lift hrow hkm
      gi_wp2
      gi_region_with_o (fail)
      all_goals gi_wp2
      all_goals exact ⟨(Below.refl _ _).drew, lacks_succ HP.out.1 (by omega) hk hf⟩
    | some j =>
      obtain ⟨m, hm, hmn⟩ := findYtfpjleabmemieaaGreatsome hf
      have hM := hkm.ms j m hm
      have hlk : ∀ W' : World, W'.heap = W.heap → (lookup 113 (.map (some k.mp)) (.string name) true).run Tryz.prog W' = .ok (.tuple #[.pointer (some ⟨m.loc, 0, none⟩), .bool true]) W' := fun W' hW' =>
        run_lookup_there true 113 9 63 W' k.mp (ents k.names) k.names.length name j _ Tryz.underlying113 Tryz.underlying9 (by rw [hW']; exact hmp) (look_ents hf hm)
      have l0 := hlk W rfl
      have l1 := hlk W.drew rfl
      have m0 := lift hM.c0
      have m1 := lift hM.c1
      have m2 := lift hM.c2
      have hd : 1 ≤ 4 - 1 - 1 := by omega
      have hmx : Tryz.prog.follows .mixedOrders = true := by kernel_rfl
      have HC := Lib.hid (hcop k (List.mem_of_getElem? hk) m (List.mem_of_getElem? hm))
      have hml : m.loc < w.heap.size := (H.out.lt m.loc (by rw [hM.tg]; simp)).2
      have HIN : Hid (In (W.drew.setCell ⟨m.loc, 3, none⟩ (.bool true)) (fun b => b < w.heap.size ∧ Plain (W.drew.setCell ⟨m.loc, 3, none⟩ (.bool true)) b) m.ty) := Lib.hid (hM.ty.keep (fun b hb => ⟨(H.out.lt b (by rw [hb]; simp)).2, (H.out.pl b hb).keep (by have hl := (H.out.lt b (by rw [hb]; simp)).2; exact (set_heap _ _ _ _ _ (by rintro rfl; rw [hM.tg] at hb; cases hb)).trans ((hbW.block b (by omega)).trans (HW.out.1.block b hl)))⟩) (fun p hp => by
        have hl := (H.out.lt p.block (by rw [hp]; simp)).2
        have hne : p.block ≠ m.loc := fun e => by rw [e, hM.tg] at hp; cases hp
        exact (World.cell?_of_block (set_heap _ _ _ _ _ hne)).trans ((hbW.cell (p := p) (by omega)).trans (HW.out.1.cell hl))))
      have m3 : W.drew.cell? ⟨m.loc, 3, none⟩ = some (.bool m.used) := lift hM.c3
      have mf : W.drew.frozen? ⟨m.loc, 3, none⟩ = false := ((hbW.frozen (p := ⟨m.loc, 3, none⟩) (by show m.loc < _; omega)).trans (HW.out.1.frozen (p := ⟨m.loc, 3, none⟩) hml)).trans (hM.fr 3)
      have HP := Lib.hid (And.intro hp (And.intro hbW hmp))
      have HM := Lib.hid hM
      clear hp hbW hmp lift hrow hkm hlk hM
      have HE : Hid (W.heap[w.heap.size + 1 + 1]? = some (.cells #[.int .u8 0, .string ⟨#[]⟩, .slice none 0 0] 26) ∧ W.heap[w.heap.size + 1 + 1 + 1]? = some (.cells #[.bool false] 4)) := Lib.hid ⟨(HP.out.2.1.block _ (by omega)).trans HW.out.2.2.2.1, (HP.out.2.1.block _ (by omega)).trans HW.out.2.2.2.2⟩
      gi_wp2
      rename_i K1 hK1
      have key : K1 { tmps := #[.pointer (some ⟨s, 0, none⟩), .string name, .func (.func 41) #[] #[], undef, .pointer (some ⟨w.heap.size, 0, none⟩), .pointer (some ⟨w.heap.size + 1, 0, none⟩), .pointer (some ⟨w.heap.size + 1 + 1, 0, none⟩), .pointer (some ⟨w.heap.size + 1 + 1 + 1, 0, none⟩),
          .pointer (some ⟨k.loc, 0, none⟩), .pointer (some ⟨m.loc, 0, none⟩), .bool true, .pointer (some ⟨s, 0, none⟩), .bool true, .bool false, undef, .pointer (some ⟨s, 0, none⟩), .pointer (some ⟨s, 0, none⟩), .pointer (some ⟨s, 0, none⟩), .slice A bs.length cap, .func (.func 48) #[.slice A bs.length cap] #[], .pointer (some ⟨k.loc, 0, none⟩),
          .tuple #[.pointer (some ⟨m.loc, 0, none⟩), .bool true], .pointer (some ⟨k.loc, 0, none⟩), .pointer (some ⟨k.loc, 0, none⟩), .pointer (some ⟨k.loc, 1, none⟩), .map (some k.mp), .string name, .tuple #[.pointer (some ⟨m.loc, 0, none⟩), .bool true], .pointer (some ⟨m.loc, 0, none⟩), .bool true, undef, undef, undef, undef, undef, undef, undef, undef, undef, undef], defers := [] } W.drew := by
        apply hK1
        clear l0 l1
        gi_wp2_with (first
          | (refine ⟨trivial, ?_⟩; gi_at_call 41; refine (CallsIn.inRound _ (callsIn_wide.2 (heedU_any m.loc _ _ m3 mf))).mono ?_; rintro e w' ⟨rfl, rfl⟩)
          | (refine ⟨trivial, ?_⟩; gi_at_call 49; refine (CallsIn.inRound _ (callsIn_wide.2 (HC.out _ _ HIN.out (fun b hb => ⟨by have := hsW; have := hb.1; rw [set_size]; simp; omega, hb.2⟩)))).mono ?_; rintro e w' ⟨t', rfl, hc⟩
             obtain ⟨⟨r0, r1, r2⟩, rf⟩ := cs3_of ((hc.2.2.block (w.heap.size + 1 + 1) (by rw [set_size]; simp; omega)).trans ((set_heap _ _ _ _ _ (by omega)).trans HE.out.1))
             have g0 : w'.cell? ⟨w.heap.size + 1 + 1 + 1, 0, none⟩ = some (.bool false) := by
               have := (hc.2.2.block (w.heap.size + 1 + 1 + 1) (by rw [set_size]; simp; omega)).trans ((set_heap _ _ _ _ _ (by omega)).trans HE.out.2)
               simp [World.cell?, this]
             have gf : w'.frozen? ⟨w.heap.size + 1 + 1 + 1, 0, none⟩ = false := by
               have := (hc.2.2.block (w.heap.size + 1 + 1 + 1) (by rw [set_size]; simp; omega)).trans ((set_heap _ _ _ _ _ (by omega)).trans HE.out.2)
               simp [World.frozen?, this]
             have HC' := Lib.hid hc; clear hc; unfold Ty.val Ty.row))
        obtain ⟨hsm, hin', hb'⟩ := HC'.out
        exact tell_end (u := true) (X := W.drew.setCell ⟨m.loc, 3, none⟩ (.bool true)) (W := W) hD (by rw [set_size]; exact hsW) (seek_here HP.out.1 (by omega) hk hf) hk hm hsm ⟨set_heap _ _ _ _ _ (by omega), set_heap _ _ _ _ _ (by omega)⟩ hin' hb' ⟨r0, r1, r2⟩ g0 (below_set (HW.out.1.trans (HP.out.2.1.mono (by omega))).drew _ _)
      gi_region_with_o (fail)
      all_goals exact key
  case done =>
    intro W hp hbW hK
    have e2 := cs3_of ((hbW.block _ (by omega)).trans HW.out.2.2.2.1)
    have e3 := (hbW.block _ (by omega)).trans HW.out.2.2.2.2
    obtain ⟨⟨d0, d1, d2⟩, df⟩ := e2
    have g0 : W.cell? ⟨w.heap.size + 1 + 1 + 1, 0, none⟩ = some (.bool false) := by simp [World.cell?, e3]
    have gf : W.frozen? ⟨w.heap.size + 1 + 1 + 1, 0, none⟩ = false := by simp [World.frozen?, e3]
    have HP := Lib.hid (And.intro hp (And.intro hbW hK))
    clear hp hbW hK e3 hrow
    gi_wp2
    have hK : ((((W.setCell ⟨w.heap.size + 1 + 1, 0, none⟩ (.int .u8 0)).setCell ⟨w.heap.size + 1 + 1, 1, none⟩ (.string ⟨#[]⟩)).setCell ⟨w.heap.size + 1 + 1, 2, none⟩ (.slice none 0 0)).setCell ⟨w.heap.size + 1 + 1 + 1, 0, none⟩ (.bool false)).heap[W4.heap.size]? = some (.deferred (some [])) := by
      rw [set_heap _ _ _ _ _ (by omega), set_heap _ _ _ _ _ (by omega), set_heap _ _ _ _ _ (by omega), set_heap _ _ _ _ _ (by omega)]; exact HP.out.2.2
    refine ⟨by simp, .inl ⟨_, _, rfl, run_takeDeferred hK, ?_⟩⟩
    have pc : ∀ (p : Addr), p.block < W4.heap.size → (World.putObj ((((W.setCell ⟨w.heap.size + 1 + 1, 0, none⟩ (.int .u8 0)).setCell ⟨w.heap.size + 1 + 1, 1, none⟩ (.string ⟨#[]⟩)).setCell ⟨w.heap.size + 1 + 1, 2, none⟩ (.slice none 0 0)).setCell ⟨w.heap.size + 1 + 1 + 1, 0, none⟩ (.bool false)) W4.heap.size (.deferred none)).cell? p = ((((W.setCell ⟨w.heap.size + 1 + 1, 0, none⟩ (.int .u8 0)).setCell ⟨w.heap.size + 1 + 1, 1, none⟩ (.string ⟨#[]⟩)).setCell ⟨w.heap.size + 1 + 1, 2, none⟩ (.slice none 0 0)).setCell ⟨w.heap.size + 1 + 1 + 1, 0, none⟩ (.bool false)).cell? p := fun p hp => put_cell _ _ _ (by omega)
    have q0 := pc ⟨w.heap.size + 1 + 1, 0, none⟩ (by show _ + 1 + 1 < _; omega)
    have q1 := pc ⟨w.heap.size + 1 + 1, 1, none⟩ (by show _ + 1 + 1 < _; omega)
    have q2 := pc ⟨w.heap.size + 1 + 1, 2, none⟩ (by show _ + 1 + 1 < _; omega)
    have q3 := pc ⟨w.heap.size + 1 + 1 + 1, 0, none⟩ (by show _ + 1 + 1 + 1 < _; omega)
    simp [go_sem, d0, d1, d2, g0] at q0 q1 q2 q3
    refine ⟨.tuple #[zeroTy.val, .bool false], ?_, ?_⟩
    · simp [results, Tryz.results31, go_sem, q0, q1, q2, q3, Ty.val, Ty.row, zeroTy, Ty.kind, Ty.name, Ty.addr, Ty.els, Ty.cap]
    · unfold TellPost
      rw [seek_none HP.out.1]
      refine ⟨rfl, below_put ?_ (by omega) _⟩
      have hb := HW.out.1.trans (HP.out.2.1.mono (by omega))
      exact (((hb.setCell (p := ⟨w.heap.size + 1 + 1, 0, none⟩) (by show _ ≤ _ + 1 + 1; omega) _).setCell (p := ⟨w.heap.size + 1 + 1, 1, none⟩) (by show _ ≤ _ + 1 + 1; omega) _).setCell (p := ⟨w.heap.size + 1 + 1, 2, none⟩) (by show _ ≤ _ + 1 + 1; omega) _).setCell (p := ⟨w.heap.size + 1 + 1 + 1, 0, none⟩) (by show _ ≤ _ + 1 + 1 + 1; omega) _
  case stop =>
    rintro W ⟨i, j, k, m, t', hsk, hbi, hkj, hsame, hin, hbw, d0, d1, d2, d3⟩ hK
    gi_wp2
    refine ⟨by simp, .inl ⟨_, _, rfl, run_takeDeferred hK, ?_⟩⟩
    have q0 := (put_cell W W4.heap.size (.deferred none) (p := ⟨w.heap.size + 1 + 1, 0, none⟩) (by show _ + 1 + 1 ≠ _; omega)).trans d0
    have q1 := (put_cell W W4.heap.size (.deferred none) (p := ⟨w.heap.size + 1 + 1, 1, none⟩) (by show _ + 1 + 1 ≠ _; omega)).trans d1
    have q2 := (put_cell W W4.heap.size (.deferred none) (p := ⟨w.heap.size + 1 + 1, 2, none⟩) (by show _ + 1 + 1 ≠ _; omega)).trans d2
    have q3 := (put_cell W W4.heap.size (.deferred none) (p := ⟨w.heap.size + 1 + 1 + 1, 0, none⟩) (by show _ + 1 + 1 + 1 ≠ _; omega)).trans d3
    refine ⟨.tuple #[t'.val, .bool true], ?_, ?_⟩
    · simp [results, Tryz.results31, go_sem, q0, q1, q2, q3, Ty.val, Ty.row]
    · unfold TellPost
      rw [hsk]
      exact ⟨k, m, t', hbi, hkj, rfl, hsame, hin.keep (by omega) (by rw [World.putObj_size]; exact Nat.le_refl _) (fun b h1 h2 => World.putObj_heap_other (by omega)), below_put hbw (by omega) _⟩
end Go.Proofs.YtfpjleabmemieaaGreat
