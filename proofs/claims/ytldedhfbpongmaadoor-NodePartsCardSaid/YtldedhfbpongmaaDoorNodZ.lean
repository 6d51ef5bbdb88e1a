import Derived.Test.YtldedhfbpongmaaDoorNodY
set_option maxRecDepth 100000
namespace NodT
open Go
/-- Do these questions, one behind the other, say yes of the kids from the first on? -/
def fitsQ : List (Nd → Bool) → List Nd → Bool
  | [], _ => true
  | _ :: _, [] => false
  | p :: ps, k :: ks => p k && fitsQ ps ks
open RowKit in
theorem inl_tail {w : World} {B ab ao c : Nat} {u : Nd} {rest : List Nd} (h : InL w B (some ⟨ab, ao, none⟩) c (u :: rest)) : InL w B (some ⟨ab, ao + 5, none⟩) (c - 1) rest := by
  refine ⟨fun h0 => ?_, by have := h.len; simp only [List.length_cons] at this; omega, fun h => by (cases h), by have := h.cap; omega, fun t ht => h.each t (List.mem_cons_of_mem _ ht)⟩
  obtain ⟨b, o, hA, hb, hc⟩ := h.rows (by simp)
  obtain ⟨rfl, rfl⟩ : ab = b ∧ ao = o := by simpa using hA
  refine ⟨ab, ao + 5, rfl, hb, fun i t hi j v hv => ?_⟩
  have := hc (i + 1) t (by simpa using hi) j v hv
  have e : ao + (i + 1) * 5 + j = ao + 5 + i * 5 + j := by omega
  rw [e] at this
  exact this
open RowKit in
theorem inl_none_left {w : World} {B ab ao : Nat} {u : Nd} {rest : List Nd} (h : InL w B (some ⟨ab, ao, none⟩) 1 (u :: rest)) : rest = [] ∧ InL w B (some ⟨ab, ao, none⟩) 0 rest := by
  have hl := h.len
  simp only [List.length_cons] at hl
  obtain rfl : rest = [] := List.eq_nil_of_length_eq_zero (by omega)
  exact ⟨rfl, ⟨fun h0 => by simp at h0, Nat.le_refl _, fun h => by (cases h), by simp [maxLen], fun t ht => by simp at ht⟩⟩
end NodT
namespace Go.Proofs.YtldedhfbpongmaaDoor
open Go.Instr Go.RowKit NodT
set_option linter.unusedVariables false
/-- The look's box: the kids that are still to be taken. -/
structure LookBox (w : World) (b : Nat) (t : Nd) (d : Int) (A : Option Addr) (n cap : Nat) : Prop where
  c0 : w.cell? ⟨b, 0, none⟩ = some (.int .u8 t.kind)
  c1 : w.cell? ⟨b, 1, none⟩ = some (.string t.text)
  c2 : w.cell? ⟨b, 2, none⟩ = some (.int .i64 t.num)
  c3 : w.cell? ⟨b, 3, none⟩ = some (.int .i64 t.place)
  c4 : w.cell? ⟨b, 4, none⟩ = some (.slice A n cap)
  c5 : w.cell? ⟨b, 5, none⟩ = some (.int .i64 d)
  f4 : w.frozen? ⟨b, 4, none⟩ = false
theorem LookBox.keep {w w' : World} {b : Nat} {t : Nd} {d : Int} {A : Option Addr} {n cap : Nat} (h : LookBox w b t d A n cap) (hw : w'.heap[b]? = w.heap[b]?) : LookBox w' b t d A n cap :=
  ⟨(World.cell?_of_block hw).trans h.c0, (World.cell?_of_block hw).trans h.c1, (World.cell?_of_block hw).trans h.c2, (World.cell?_of_block hw).trans h.c3, (World.cell?_of_block hw).trans h.c4, (World.cell?_of_block hw).trans h.c5, (World.frozen?_of_block hw).trans h.f4⟩
theorem LookBox.lt {w : World} {b : Nat} {t : Nd} {d : Int} {A : Option Addr} {n cap : Nat} (h : LookBox w b t d A n cap) : b < w.heap.size := World.block_lt_of_cell? _ _ h.c0
theorem LookBox.take {w : World} {b : Nat} {t : Nd} {d : Int} {A : Option Addr} {n cap : Nat} (h : LookBox w b t d A n cap) (A' : Option Addr) (n' cap' : Nat) : LookBox (w.setCell ⟨b, 4, none⟩ (.slice A' n' cap')) b t d A' n' cap' := by
  obtain ⟨c0, c1, c2, c3, c4, c5, f4⟩ := h
  constructor <;> simp [go_sem, c0, c1, c2, c3, c4, c5, f4]
/-- A question, its memory from block base on. -/
def Quest (w : World) (base : Nat) (v : Value) (p : Nd → Bool) : Prop :=
  (∃ b g ks, v = .func (.func 30) #[] #[.pointer (some ⟨b, 0, none⟩)] ∧ KindsBoxAt w b g ks ∧ b < w.heap.size ∧ base ≤ b ∧ base ≤ g ∧ p = fun t => ks.contains t.kind) ∨
  (v = .func (.func 53) #[] #[] ∧ p = placeB)
theorem Quest.keep {w w' : World} {base : Nat} {v : Value} {p : Nd → Bool} (h : Quest w base v p) (hw : ∀ a : Addr, base ≤ a.block → a.block < w.heap.size → w'.cell? a = w.cell? a) (hs : w.heap.size ≤ w'.heap.size) : Quest w' base v p := by
  rcases h with ⟨b, g, ks, hv, hk, hb, h1, h2, hp⟩ | h
  · exact .inl ⟨b, g, ks, hv, hk.keep (fun a ha => hw a (by rcases ha with h | h <;> omega) (by have := hk.2.2; rcases ha with h | h <;> omega)) hs, by omega, h1, h2, hp⟩
  · exact .inr h
theorem Quest.form {w : World} {base : Nat} {v : Value} {p : Nd → Bool} (h : Quest w base v p) : (∃ b, v = .func (.func 30) #[] #[.pointer (some ⟨b, 0, none⟩)]) ∨ v = .func (.func 53) #[] #[] := by
  rcases h with ⟨b, g, ks, hv, _⟩ | ⟨hv, _⟩
  · exact .inl ⟨b, hv⟩
  · exact .inr hv
theorem Quest.kinds {w : World} {base : Nat} {b : Nat} {p : Nd → Bool} (h : Quest w base (.func (.func 30) #[] #[.pointer (some ⟨b, 0, none⟩)]) p) (t : Nd) : Calls Tryd.prog 30 #[t.val, .pointer (some ⟨b, 0, none⟩)] w fun e w' => e = .returned (.bool (p t)) ∧ Below w.heap.size w w' := by
  rcases h with ⟨b', g, ks, hv, hk, hb, h1, h2, hp⟩ | ⟨hv, _⟩
  · obtain rfl : b = b' := by simpa using hv
    rw [hp]
    exact ofS1_any t b ks w hk.box hb
  · simp at hv
theorem Quest.place {w : World} {base B : Nat} {p : Nd → Bool} (h : Quest w base (.func (.func 53) #[] #[]) p) (t : Nd) (ht : In w B t) (hB : B ≤ w.heap.size) : Calls Tryd.prog 53 #[t.val] w fun e w' => e = .returned (.bool (p t)) ∧ Below w.heap.size w w' := by
  rcases h with ⟨b', g, ks, hv, hk, hb, h1, h2, hp⟩ | ⟨_, hp⟩
  · simp at hv
  · rw [hp]; exact isPlace_any t w B ht hB
/-- What taking leaves: the kids that are left, in the look's box; nothing else that was there has turned. -/
def Took (t : Nd) (d : Int) (bl B : Nat) (K : List Nd) (w : World) (e : Ending) (w' : World) : Prop := e = .returned (.tuple #[]) ∧ w.grownBy w' (some bl) ∧ ∃ A c, LookBox w' bl t d A K.length c ∧ InL w' B A c K
def Fell (bl : Nat) (w : World) (e : Ending) (w' : World) : Prop := e = .panicked misfits ∧ w.grownBy w' (some bl)
def TookOr (ok : Bool) (t : Nd) (d : Int) (bl B : Nat) (K : List Nd) (w : World) (e : Ending) (w' : World) : Prop := (ok = true ∧ Took t d bl B K w e w') ∨ (ok = false ∧ Fell bl w e w')

theorem next_rel {t : Nd} {d : Int} {bl B j n : Nat} {K rest : List Nd} {ps : List (Nd → Bool)} {w wr wz : World} {A1 A2 : Option Addr} {n1 c1 c2 : Nat} {ok : Bool} (hrest : K.drop (j + 1) = rest) (hjK : j < K.length) (hlb : LookBox wr bl t d A1 n1 c1) (hg : w.grownBy wr (some bl)) (hbz : Below wr.heap.size wr wz) (hBb : B ≤ bl)
    (hff : ok = fitsQ (ps.drop (j + 1)) (K.drop (j + 1))) (hin : InL wr B A2 c2 rest) (hjn : j < n) (hl : n1 = n1) :
    ∃ (j1 : Nat) (A' : Option Addr) (c' : Nat), j1 ≤ n ∧ n - (j + 1) = n - j1 ∧ Value.int IntKind.i64 ((j : Int) + 1) = Value.int IntKind.i64 (j1 : Int) ∧ j1 ≤ K.length ∧ LookBox (wz.setCell ⟨bl, 4, none⟩ (.slice A2 rest.length c2)) bl t d A' (K.drop j1).length c' ∧
      InL (wz.setCell ⟨bl, 4, none⟩ (.slice A2 rest.length c2)) B A' c' (K.drop j1) ∧ w.grownBy (wz.setCell ⟨bl, 4, none⟩ (.slice A2 rest.length c2)) (some bl) ∧ ok = fitsQ (ps.drop j1) (K.drop j1) := by
  have hblt := hlb.lt
  have hb := hlb.keep (hbz.block bl hblt)
  refine ⟨j + 1, A2, c2, by omega, rfl, by go_num, by omega, ?_, ?_, ?_, hff⟩
  · rw [hrest]; exact hb.take _ _ _
  · rw [hrest]
    exact (hin.under (hbz.mono (by omega))).keep fun p hp => World.cell?_setCell_other _ _ _ _ (by rintro rfl; simp at hp; omega)
  · exact ⟨hbz.os.trans hg.os, hbz.tape.trans hg.tape, hbz.output.trans hg.output, by simp only [World.setCell, Array.size_modify]; exact Nat.le_trans hg.size hbz.size, fun k hk hne => (Below.heap_setCell _ _ _ _ (by rintro rfl; exact hne rfl)).trans ((hbz.block k (Nat.lt_of_lt_of_le hk hg.size)).trans (hg.block k hk hne))⟩
set_option maxHeartbeats 2000000 in
theorem next_any (t : Nd) (d : Int) (bl B base : Nat) (A : Option Addr) (c : Nat) (K : List Nd) (gq cq : Nat) (vs : List Value) (ps : List (Nd → Bool)) (w : World) (hlb : LookBox w bl t d A K.length c) (hin : InL w B A c K) (hbl : bl < base) (hBb : B ≤ bl) (hbw : base ≤ w.heap.size)
    (hq : ∀ (j : Nat) (v : Value), vs[j]? = some v → w.cell? ⟨gq, j, none⟩ = some v) (hgq : base ≤ gq) (hgw : gq < w.heap.size) (hvp : vs.length = ps.length) (hn : vs.length ≤ cq) (hn2 : vs.length ≤ 100) (hqs : ∀ (j : Nat) (v : Value) (p : Nd → Bool), vs[j]? = some v → ps[j]? = some p → Quest w base v p) :
    Calls Tryd.prog 48 #[.pointer (some ⟨bl, 0, none⟩), .slice (some ⟨gq, 0, none⟩) vs.length cq] w (TookOr (fitsQ ps K) t d bl B (K.drop vs.length) w) := by
  have HVP := Lib.hid hvp
  clear hvp
  go_enter Tryd.func48, Tryd.ntmps48
  go_wp2_with fail
  go_loopg [5, 8] vs.length (fun gg v5 i wr => ∃ (j : Nat) (A' : Option Addr) (c' : Nat), j ≤ vs.length ∧ gg = vs.length - j ∧ i = .int .i64 j ∧ j ≤ K.length ∧ LookBox wr bl t d A' (K.drop j).length c' ∧ InL wr B A' c' (K.drop j) ∧ w.grownBy wr (some bl) ∧ fitsQ ps K = fitsQ (ps.drop j) (K.drop j))
  case atStart => exact ⟨0, A, c, by omega, rfl, rfl, by omega, hlb, hin, ⟨rfl, rfl, rfl, Nat.le_refl _, fun _ _ _ => rfl⟩, rfl⟩
  case round =>
    obtain ⟨j, A', c', hj, hgk, rfl, hjk, hlb', hin', hgr, hfit⟩ := hrel
    clear hlb hin
    have HGK := Lib.hid hgk
    have HFIT := Lib.hid hfit
    clear hgk hfit
    by_cases hlt : j < vs.length
    · obtain ⟨v, hv⟩ : ∃ v, vs[j]? = some v := ⟨_, List.getElem?_eq_getElem hlt⟩
      obtain ⟨p, hp⟩ : ∃ p, ps[j]? = some p := ⟨_, List.getElem?_eq_getElem (by have := HVP.out; omega)⟩
      have hvc : wr.cell? ⟨gq, j, none⟩ = some v := hgr.cell (hq j v hv) (by simp; omega)
      have hQ : Quest wr base v p := (hqs j v p hv hp).keep (fun a h1 h2 => World.cell?_of_block (hgr.block _ h2 (by simp; omega))) hgr.size
      have hpd : ps.drop j = p :: ps.drop (j + 1) := List.drop_eq_getElem_cons (by have := HVP.out; omega) |>.trans (by rw [(List.getElem?_eq_some_iff.1 hp).2])
      have hszw := hgr.size
      have hblt := hlb'.lt
      cases hK : K.drop j with
      | nil =>
        have hff : Hid (fitsQ ps K = false) := by show _ = _; rw [HFIT.out, hpd, hK]; rfl
        rw [hK] at hlb'
        obtain ⟨_, _, _, _, c4, _, _⟩ := hlb'
        simp only [List.length_nil] at c4
        clear hin' hK hQ hqs hq HFIT hpd hv hp
        have HG := Lib.hid hgr
        clear hgr
        go_wp2_with (go_at_call 23; refine (must_no _).mono ?_; rintro e w' ⟨rfl, rfl⟩)
        refine ⟨rfl, ?_⟩
        exact .inr ⟨hff.out, rfl, HG.out⟩
      | cons u rest =>
        have hrest : K.drop (j + 1) = rest := by rw [← List.tail_drop, hK]; rfl
        rw [hK] at hlb' hin'
        have HLB := Lib.hid hlb'
        obtain ⟨_, _, _, _, c4, _, f4⟩ := hlb'
        simp only [List.length_cons] at c4
        obtain ⟨ab, ao, ha, hab, e0, e1, e2, e3, e4⟩ := hin'.at_ (i := 0) (u := u) rfl
        subst ha
        simp only [Nat.zero_mul, Nat.add_zero] at e0 e1 e2 e3 e4
        have hiu : In wr B u := hin'.each u (List.mem_cons_self ..)
        have hr1 := hin'.len
        have hr2 := hin'.cap
        unfold maxLen at hr2
        simp only [List.length_cons] at hr1
        have hBw : B ≤ wr.heap.size := by omega
        rcases hQ.form with ⟨bq, hqv⟩ | hqv
        · subst hqv
          have HC := Lib.hid (hQ.kinds u)
          cases hpu : p u
          · have HPU := Lib.hid hpu
            have hff : Hid (fitsQ ps K = false) := by show _ = _; rw [HFIT.out, hpd, hK]; simp [fitsQ, HPU.out]
            rw [hpu] at HC
            clear hpu hK hq hqs HFIT hpd hv hp
            have HG := Lib.hid hgr
            have HIN := Lib.hid hin'
            clear hgr hin'
            go_wp2_with (first | (go_at_call 30; refine HC.out.mono ?_; rintro e wz ⟨rfl, hbz⟩) | (go_at_call 23; refine (must_no _).mono ?_; rintro e w' ⟨rfl, rfl⟩))
            refine ⟨rfl, ?_⟩
            refine .inr ⟨hff.out, rfl, ?_⟩
            exact ⟨hbz.os.trans HG.out.os, hbz.tape.trans HG.out.tape, hbz.output.trans HG.out.output, Nat.le_trans HG.out.size hbz.size, fun k hk hne => (hbz.block k (by omega)).trans (HG.out.block k hk hne)⟩
          · have HPU := Lib.hid hpu
            have hff : Hid (fitsQ ps K = fitsQ (ps.drop (j + 1)) (K.drop (j + 1))) := by
              show _ = _
              rw [HFIT.out, hpd, hK, hrest]
              simp [fitsQ, HPU.out]
            rw [hpu] at HC
            have HHR := Lib.hid hrest
            clear hpu hq hqs HFIT hpd hv hp hrest
            have HG := Lib.hid hgr
            have HIN := Lib.hid hin'
            clear hgr hin'
            have hbl' : bl < wr.heap.size := hblt
            have hjK : j < K.length := by
              rcases Nat.lt_or_ge j K.length with h | h
              · exact h
              · rw [List.drop_eq_nil_of_le h] at hK; cases hK
            clear hK
            by_cases hc1 : c' = 1
            · subst hc1
              obtain ⟨hre, hin0⟩ := inl_none_left HIN.out
              have HRE := Lib.hid hre
              have HIN0 := Lib.hid hin0
              clear hre hin0
              go_wp2_with (first | (go_at_call 30; refine HC.out.mono ?_; rintro e wz ⟨rfl, hbz⟩; (have z4 := (hbz.cell (p := ⟨bl, 4, none⟩) hbl').trans c4); (have zf := (hbz.frozen (p := ⟨bl, 4, none⟩) hbl').trans f4)) | (go_at_call 23; refine (must_yes _).mono ?_; rintro e w' ⟨rfl, rfl⟩))
              go_roundg (vs.length - (j + 1))
              case rel =>
                have hfin := next_rel (n := vs.length) HHR.out hjK HLB.out HG.out hbz hBb hff.out HIN0.out hlt rfl
                rw [HRE.out] at hfin
                exact hfin
              case measure => rw [HGK.out]; omega
            · have hcd : (c' == 1) = false := by simpa using hc1
              go_wp2_with (first | (go_at_call 30; refine HC.out.mono ?_; rintro e wz ⟨rfl, hbz⟩; (have z4 := (hbz.cell (p := ⟨bl, 4, none⟩) hbl').trans c4); (have zf := (hbz.frozen (p := ⟨bl, 4, none⟩) hbl').trans f4)) | (go_at_call 23; refine (must_yes _).mono ?_; rintro e w' ⟨rfl, rfl⟩))
              go_roundg (vs.length - (j + 1))
              case rel =>
                exact next_rel (n := vs.length) HHR.out hjK HLB.out HG.out hbz hBb hff.out (inl_tail HIN.out) hlt rfl
              case measure => rw [HGK.out]; omega
        · subst hqv
          have HC := Lib.hid (hQ.place u hiu hBw)
          cases hpu : p u
          · have HPU := Lib.hid hpu
            have hff : Hid (fitsQ ps K = false) := by show _ = _; rw [HFIT.out, hpd, hK]; simp [fitsQ, HPU.out]
            rw [hpu] at HC
            clear hpu hK hq hqs HFIT hpd hv hp
            have HG := Lib.hid hgr
            have HIN := Lib.hid hin'
            clear hgr hin'
            go_wp2_with (first | (go_at_call 53; refine HC.out.mono ?_; rintro e wz ⟨rfl, hbz⟩) | (go_at_call 23; refine (must_no _).mono ?_; rintro e w' ⟨rfl, rfl⟩))
            refine ⟨rfl, ?_⟩
            refine .inr ⟨hff.out, rfl, ?_⟩
            exact ⟨hbz.os.trans HG.out.os, hbz.tape.trans HG.out.tape, hbz.output.trans HG.out.output, Nat.le_trans HG.out.size hbz.size, fun k hk hne => (hbz.block k (by omega)).trans (HG.out.block k hk hne)⟩
          · have HPU := Lib.hid hpu
            have hff : Hid (fitsQ ps K = fitsQ (ps.drop (j + 1)) (K.drop (j + 1))) := by
              show _ = _
              rw [HFIT.out, hpd, hK, hrest]
              simp [fitsQ, HPU.out]
            rw [hpu] at HC
            have HHR := Lib.hid hrest
            clear hpu hq hqs HFIT hpd hv hp hrest
            have HG := Lib.hid hgr
            have HIN := Lib.hid hin'
            clear hgr hin'
            have hbl' : bl < wr.heap.size := hblt
            have hjK : j < K.length := by
              rcases Nat.lt_or_ge j K.length with h | h
              · exact h
              · rw [List.drop_eq_nil_of_le h] at hK; cases hK
            clear hK
            by_cases hc1 : c' = 1
            · subst hc1
              obtain ⟨hre, hin0⟩ := inl_none_left HIN.out
              have HRE := Lib.hid hre
              have HIN0 := Lib.hid hin0
              clear hre hin0
              go_wp2_with (first | (go_at_call 53; refine HC.out.mono ?_; rintro e wz ⟨rfl, hbz⟩; (have z4 := (hbz.cell (p := ⟨bl, 4, none⟩) hbl').trans c4); (have zf := (hbz.frozen (p := ⟨bl, 4, none⟩) hbl').trans f4)) | (go_at_call 23; refine (must_yes _).mono ?_; rintro e w' ⟨rfl, rfl⟩))
              go_roundg (vs.length - (j + 1))
              case rel =>
                have hfin := next_rel (n := vs.length) HHR.out hjK HLB.out HG.out hbz hBb hff.out HIN0.out hlt rfl
                rw [HRE.out] at hfin
                exact hfin
              case measure => rw [HGK.out]; omega
            · have hcd : (c' == 1) = false := by simpa using hc1
              go_wp2_with (first | (go_at_call 53; refine HC.out.mono ?_; rintro e wz ⟨rfl, hbz⟩; (have z4 := (hbz.cell (p := ⟨bl, 4, none⟩) hbl').trans c4); (have zf := (hbz.frozen (p := ⟨bl, 4, none⟩) hbl').trans f4)) | (go_at_call 23; refine (must_yes _).mono ?_; rintro e w' ⟨rfl, rfl⟩))
              go_roundg (vs.length - (j + 1))
              case rel =>
                exact next_rel (n := vs.length) HHR.out hjK HLB.out HG.out hbz hBb hff.out (inl_tail HIN.out) hlt rfl
              case measure => rw [HGK.out]; omega
    · have hjn : j = vs.length := by omega
      have hff : Hid (fitsQ ps K = true) := by show _ = _; rw [HFIT.out, hjn, HVP.out, List.drop_length]; rfl
      rw [hjn] at hlb' hin'
      clear hjn hq hqs
      have HLB := Lib.hid hlb'
      have HIN := Lib.hid hin'
      have HG := Lib.hid hgr
      clear hlb' hin' hgr
      go_wp2_with fail
      go_end0
      exact .inl ⟨hff.out, rfl, HG.out, _, _, HLB.out, HIN.out⟩
end Go.Proofs.YtldedhfbpongmaaDoor
