/- A rule: the walk. -/
import Derived.Test.YtngimijiafnheaaGreatRdO
set_option maxRecDepth 100000
set_option linter.unusedSimpArgs false
namespace LexT
theorem ruleF_1 {N : Nat} {l : List Tok} {e : Er} (h : nameF l = .error e) : ruleF N l = some (.error e) := by
  unfold ruleF; rw [h]; rfl
theorem ruleF_2 {N : Nat} {l l1 : List Tok} {t : Tok} {e : Er} (h : nameF l = .ok (t, l1)) (h2 : givenF paramF N [] l1 = some (.error e)) : ruleF N l = some (.error e) := by
  unfold ruleF; rw [h]
  show bnd (givenF paramF N [] l1) _ = _
  rw [h2]; rfl
theorem ruleF_3 {N : Nat} {l l1 l2 : List Tok} {t : Tok} {ps : List Bs} {e : Er} (h : nameF l = .ok (t, l1)) (h2 : givenF paramF N [] l1 = some (.ok (ps, l2))) (h3 : needF [[58]] l2 = .error e) : ruleF N l = some (.error e) := by
  unfold ruleF; rw [h]
  show bnd (givenF paramF N [] l1) _ = _
  rw [h2]
  show bnd (some (needF [[58]] l2)) _ = _
  rw [h3]; rfl
theorem ruleF_4 {N : Nat} {l l1 l2 l3 : List Tok} {t t2 : Tok} {ps : List Bs} {e : Er} (h : nameF l = .ok (t, l1)) (h2 : givenF paramF N [] l1 = some (.ok (ps, l2))) (h3 : needF [[58]] l2 = .ok (t2, l3)) (h4 : someF (altsF N) [124] N [] l3 = some (.error e)) : ruleF N l = some (.error e) := by
  unfold ruleF; rw [h]
  show bnd (givenF paramF N [] l1) _ = _
  rw [h2]
  show bnd (some (needF [[58]] l2)) _ = _
  rw [h3]
  show bnd (someF (altsF N) [124] N [] l3) _ = _
  rw [h4]; rfl
theorem ruleF_5 {N : Nat} {l l1 l2 l3 l4 : List Tok} {t t2 : Tok} {ps : List Bs} {az : List Al} {e : Er} (h : nameF l = .ok (t, l1)) (h2 : givenF paramF N [] l1 = some (.ok (ps, l2))) (h3 : needF [[58]] l2 = .ok (t2, l3)) (h4 : someF (altsF N) [124] N [] l3 = some (.ok (az, l4))) (h5 : needF [[59]] l4 = .error e) : ruleF N l = some (.error e) := by
  unfold ruleF; rw [h]
  show bnd (givenF paramF N [] l1) _ = _
  rw [h2]
  show bnd (some (needF [[58]] l2)) _ = _
  rw [h3]
  show bnd (someF (altsF N) [124] N [] l3) _ = _
  rw [h4]
  show bnd (some (needF [[59]] l4)) _ = _
  rw [h5]; rfl
theorem ruleF_6 {N : Nat} {l l1 l2 l3 l4 l5 : List Tok} {t t2 t5 : Tok} {ps : List Bs} {az : List Al} (h : nameF l = .ok (t, l1)) (h2 : givenF paramF N [] l1 = some (.ok (ps, l2))) (h3 : needF [[58]] l2 = .ok (t2, l3)) (h4 : someF (altsF N) [124] N [] l3 = some (.ok (az, l4))) (h5 : needF [[59]] l4 = .ok (t5, l5)) : ruleF N l = some (.ok (⟨t.text, ps, az, t.place⟩, l5)) := by
  unfold ruleF; rw [h]
  show bnd (givenF paramF N [] l1) _ = _
  rw [h2]
  show bnd (some (needF [[58]] l2)) _ = _
  rw [h3]
  show bnd (someF (altsF N) [124] N [] l3) _ = _
  rw [h4]
  show bnd (some (needF [[59]] l4)) _ = _
  rw [h5]; rfl
end LexT
namespace Go.Proofs.YtngimijiafnheaaGreat
open Go.Instr Go.RowKit LexT
set_option linter.unusedVariables false
variable {n b : Nat} {t : Tok} {r l : List Tok}
/-- need of one sign, whose row has just been made. -/
theorem need_sign (x : Bs) (hx : x ≠ []) {V : World} (h : Rd n V b l) : ∀ ww, ww = V.alloc (.cells #[.string (mkS x)] 9) → Calls Tryz.prog 59 #[.pointer (some ⟨b, 0, none⟩), .slice (some ⟨V.heap.size, 0, none⟩) 1 1] ww (fun e w' => (∃ t l', needF [x] l = .ok (t, l') ∧ e = .returned (tokV t) ∧ Rd n w' b l' ∧ l'.length + 1 = l.length ∧ V.grownBy w' (some b)) ∨ (∃ c q : Nat, needF [x] l = .error (c, q) ∧ e = .panicked (faulty c q) ∧ V.grownBy w' (some b))) := by
  rintro ww rfl
  have hb : Below V.heap.size V (V.alloc (.cells #[.string (mkS x)] 9)) := (Below.refl _ _).alloc (Nat.le_refl _) _
  refine (need_any [x] V.heap.size 1 (by simpa using hx) _ (h.under hb) (TxtAt.new V 9 [x] V.heap.size rfl) rfl (by omega)).mono ?_
  rintro e w' (⟨t, l', h1, h2, h3, h4, h5⟩ | ⟨c, q, h1, h2, h5⟩)
  · exact .inl ⟨t, l', h1, h2, h3, h4, grown_trans (grown_under hb b) h5⟩
  · exact .inr ⟨c, q, h1, h2, grown_trans (grown_under hb b) h5⟩
set_option maxHeartbeats 4000000 in
theorem rule_any (N : Nat) (w : World) (l : List Tok) (h : Rd n w b l) (hN : l.length < N) : Calls Tryz.prog 37 #[.pointer (some ⟨b, 0, none⟩)] w (StrP n b ruleC (ruleF N l) l.length w) := by
  obtain ⟨⟨e0, e1⟩, hb2, hs2⟩ := alloc2 w (.cells #[.pointer (some ⟨b, 0, none⟩)] 88) (.cells #[.string ⟨#[]⟩, .slice none 0 0, .slice none 0 0, .int .i64 0] 44)
  have HN := Lib.hid (name_any _ (h.under hb2))
  have HE := Lib.hid (And.intro e0 (And.intro e1 (And.intro hb2 hs2)))
  have HH := Lib.hid (And.intro h.lt (And.intro h.le (And.intro hN h.small)))
  obtain ⟨c0, _⟩ := one_fact e0
  clear h hN e0 e1 hb2 hs2
  go_enter Tryz.func37, Tryz.ntmps37
  go_wp2_with fail
  refine HN.out.mono ?_
  rintro e w1 (⟨t, l1, hn1, rfl, hr1, hl1, hg1⟩ | ⟨c, q, hn1, rfl, hg1⟩)
  · obtain ⟨W1, hW1⟩ : ∃ W1, W1 = w1.alloc (.cells #[.int .u8 (t.kind : Int), .string (mkS t.text), .int .i64 (t.place : Int)] 110) := ⟨_, rfl⟩
    have hbW : Below w1.heap.size w1 W1 := by rw [hW1]; exact (Below.refl _ _).alloc (Nat.le_refl _) _
    obtain ⟨⟨t0, t1, t2⟩, _⟩ := three_facts (show W1.heap[w1.heap.size]? = some (.cells #[.int .u8 (t.kind : Int), .string (mkS t.text), .int .i64 (t.place : Int)] 110 (0, 0)) by rw [hW1]; exact heap_alloc_new w1 _)
    obtain ⟨W2, hW2⟩ : ∃ W2, W2 = W1.alloc (.cells #[.string (mkS t.text), .slice none 0 0, .slice none 0 0, .int .i64 (t.place : Int)] 44) := ⟨_, rfl⟩
    have HS : Hid (RuS n w.heap.size b W1.heap.size t.text t.place (.slice none 0 0) (.slice none 0 0) [] [] w W2 l1 ∧ W2.heap.size = W1.heap.size + 1) := by
      obtain ⟨e0, e1, hb2, hs2⟩ := HE.out
      obtain ⟨hbn, hnw, _⟩ := HH.out
      have hbX : Below W1.heap.size W1 W2 := by rw [hW2]; exact (Below.refl _ _).alloc (Nat.le_refl _) _
      have hs1 := hg1.size
      have hsW : W1.heap.size = w1.heap.size + 1 := by rw [hW1]; simp
      have k : ∀ i, i < w.heap.size + 2 → i ≠ b → W2.heap[i]? = (((w.alloc (.cells #[.pointer (some ⟨b, 0, none⟩)] 88)).alloc (.cells #[.string ⟨#[]⟩, .slice none 0 0, .slice none 0 0, .int .i64 0] 44))).heap[i]? := fun i hi hne => (hbX.block i (by omega)).trans ((hbW.block i (by omega)).trans (hg1.block i (by omega) (by intro h3; injection h3 with h3; exact hne h3)))
      refine ⟨⟨(hr1.under hbW).under hbX, by rw [hW2]; exact heap_alloc_new W1 _, At.empty _ _ _, List.nodup_nil, by simp, (k _ (by omega) (by omega)).trans e0, (k _ (by omega) (by omega)).trans e1, ?_, by omega, by omega⟩, by rw [hW2]; simp⟩
      exact grown_then (grown_then (grown_trans (grown_under hb2 b) hg1) (hbW.mono (by omega))) (hbX.mono (by omega))
    have hl0 : w.heap.size < W1.heap.size := by have := HS.out.1.p1; omega
    have d0 : W1.cell? ⟨w.heap.size, 0, none⟩ = some (.pointer (some ⟨b, 0, none⟩)) := by
      obtain ⟨e0, e1, hb2, hs2⟩ := HE.out
      obtain ⟨hbn, hnw, _⟩ := HH.out
      have hs1 := hg1.size
      exact (one_fact ((hbW.block _ (by omega)).trans ((hg1.block _ (by omega) (by intro h3; injection h3 with h3; omega)).trans e0))).1
    have HW := Lib.hid (And.intro hW1 hW2)
    have HGV : Hid (Calls Tryz.prog 64 #[.pointer (some ⟨b, 0, none⟩), .func (.func 65) #[] #[.pointer (some ⟨W1.heap.size, 0, none⟩), .pointer (some ⟨w.heap.size, 0, none⟩)]] W2
        (OneP n b (W1.heap.size + 1) W1.heap.size (ParamJ w.heap.size (W1.heap.size + 1) b W1.heap.size w.heap.size (.string (mkS t.text)) (.slice none 0 0) (.int .i64 (t.place : Int))) (l1.length + 1) (givenF paramF N [] l1) W2)) := by
      obtain ⟨hs, hsz⟩ := HS.out
      obtain ⟨hbn, hnw, hN, hsm⟩ := HH.out
      have p1 := hs.p1
      refine given_any 65 _ paramF _ (W1.heap.size + 1) W1.heap.size N eg_rule1 ?_ ?_ N W2 [] l1 hs.rd ⟨⟨⟨.slice none 0 0, [], hs.box, At.empty _ _ _, List.nodup_nil, by simp⟩, hs.ptr, hs.b0, by omega, by omega, by omega, by omega, by omega, by omega⟩, by have := hs.rd.small; simpa using this⟩ (by omega) (by omega) (by omega)
      · intro wa wb x m m' hj hm hlo hg
        exact ⟨hj.1.keep hg, by have := hj.2; omega⟩
      · intro wa x la hra hla hja hlo
        exact param_any _ _ _ wa x la hra hnw hja
    have HL1 := Lib.hid (And.intro hn1 hl1)
    clear hn1 hr1 hl1 hg1 hW1 hW2 hbW
    unfold tokV
    go_upto_region 2 with fail
    rw [← HW.out.1]
    go_upto_region 3 with fail
    rw [← HW.out.2]
    have hl2 : w.heap.size < W2.heap.size := by have := HS.out.2; omega
    have d2 : W2.cell? ⟨w.heap.size, 0, none⟩ = some (.pointer (some ⟨b, 0, none⟩)) := (one_fact HS.out.1.ptr).1
    go_wp2_with fail
    refine HGV.out.mono ?_
    rintro e w3 (⟨ps, l3, ho, rfl, hr3, hl3, hj3, hb3⟩ | ⟨c, q, ho, rfl, hb3⟩)
    · obtain ⟨hf3, hlen3⟩ := hj3
      obtain ⟨v, Sp, hv, hat, hnd, hge⟩ := hf3.row
      obtain ⟨ao, cn, cc, rfl⟩ := hat.slice
      have HS3 : Hid (RuS n w.heap.size b W1.heap.size t.text t.place (.slice ao cn cc) (.slice none 0 0) ps Sp w w3 l3) := by
        obtain ⟨hs, hsz⟩ := HS.out
        have hg := hs.gr
        have p1 := hs.p1
        have b0 := hs.b0
        refine ⟨hr3, hv, hat, hnd, fun s hs => by have := hge s hs; omega, hf3.ptr, (hb3.block _ (by omega) (by omega) (by omega)).trans hs.res, ?_, b0, p1⟩
        exact ⟨hb3.os.trans hg.os, hb3.tape.trans hg.tape, hb3.output.trans hg.output, Nat.le_trans hg.size hb3.size, fun i hi hne => (hb3.block i (by omega) (fun hh => hne (by rw [hh])) (by omega)).trans (hg.block i hi hne)⟩
      have HO := Lib.hid (And.intro ho hl3)
      have HND := Lib.hid (need_sign [58] (by simp) hr3)
      have d3 : w3.cell? ⟨w.heap.size, 0, none⟩ = some (.pointer (some ⟨b, 0, none⟩)) := (one_fact HS3.out.ptr).1
      clear hf3 hlen3 hv hat hnd hge ho hr3 hl3 hb3 HS HGV HW HN HE d2 d0 c0 hl2 t0 t1 t2
      go_wp2_with fail
      refine (HND.out _ rfl).mono ?_
      rintro e w4 (⟨t4, l4, hn4, rfl, hr4, hl4, hg4⟩ | ⟨c, q, hn4, rfl, hg4⟩)
      · have HS4 := Lib.hid (HS3.out.turn hr4 hg4)
        have HN4 := Lib.hid (And.intro hn4 hl4)
        have HSM : Hid (Calls Tryz.prog 66 #[.pointer (some ⟨b, 0, none⟩), .string (mkS [124]), .func (.func 67) #[] #[.pointer (some ⟨W1.heap.size, 0, none⟩), .pointer (some ⟨w.heap.size, 0, none⟩)]] w4
            (OneP n b w4.heap.size W1.heap.size (AltsJ 70001 w.heap.size w4.heap.size b W1.heap.size w.heap.size (.string (mkS t.text)) (.slice ao cn cc) (.int .i64 (t.place : Int))) (l4.length + 1) (someF (altsF N) [124] N [] l4) w4)) := by
          obtain ⟨hbn, hnw, hN, hsm⟩ := HH.out
          have h1 := HL1.out.2
          have h2 := HO.out.2
          have h3 := HN4.out.2
          refine some2_any 67 _ (altsF N) [124] (AltsJ 70000 w.heap.size w4.heap.size b W1.heap.size w.heap.size (.string (mkS t.text)) (.slice ao cn cc) (.int .i64 (t.place : Int))) _ w4.heap.size W1.heap.size N (by simp) eg_rule2 ?_ ?_ ?_ N w4 [] l4 hr4 ⟨HS4.out.fld, by have := hr4.small; simpa using this⟩ (Nat.le_refl _) (by omega) (by omega)
          · intro wa wb x m hj hlo hg
            exact ⟨hj.1.keep hg, hj.2⟩
          · intro wa wb x m m' hj hm hlo hg
            exact ⟨hj.1.keep hg, by have := hj.2; omega⟩
          · intro wa x la hra hla hja hlo
            exact alts_any _ _ _ wa x la hra hla hnw hja
        have d4 : w4.cell? ⟨w.heap.size, 0, none⟩ = some (.pointer (some ⟨b, 0, none⟩)) := (one_fact HS4.out.ptr).1
        clear hn4 hr4 hl4 hg4 d3 HND
        unfold tokV
        go_wp2_with fail
        refine HSM.out.mono ?_
        rintro e w5 (⟨az, l5, ho5, rfl, hr5, hl5, hj5, hb5⟩ | ⟨c, q, ho5, rfl, hb5⟩)
        · obtain ⟨bo, bn, bc, Sa, hs5, hat5, hnd5, hge5⟩ := HS4.out.behind (lo2 := 0) hr5 hb5 (Nat.le_refl _) hj5.1
          have HS5 := Lib.hid hs5
          have HA5 := Lib.hid (And.intro hat5 (And.intro hnd5 (And.intro hge5 (And.intro ho5 hl5))))
          have HND5 := Lib.hid (need_sign [59] (by simp) hr5)
          have d5 : w5.cell? ⟨w.heap.size, 0, none⟩ = some (.pointer (some ⟨b, 0, none⟩)) := (one_fact HS5.out.ptr).1
          clear ho5 hr5 hl5 hj5 hb5 hs5 hat5 hnd5 hge5 d4 HSM
          go_wp2_with fail
          refine (HND5.out _ rfl).mono ?_
          rintro e w6 (⟨t6, l6, hn6, rfl, hr6, hl6, hg6⟩ | ⟨c, q, hn6, rfl, hg6⟩)
          · have HS6 := Lib.hid (HS5.out.turn hr6 hg6)
            have HN6 := Lib.hid (And.intro hn6 hl6)
            have HA6 : Hid (At w6 (.row 47 6 (az.flatMap altC)) Sa (.slice bo bn bc)) :=
              HA5.out.1.same _ _ _ (fun g hg => hg6.block g (At.lt _ _ _ HA5.out.1 g hg) (by intro h3; injection h3 with h3; have := HA5.out.2.2.1 g hg; have := HS4.out.b0; have := HS4.out.gr.size; omega))
            obtain ⟨⟨g0, g1, g2, g3⟩, _⟩ := four_facts HS6.out.box
            obtain ⟨⟨q0, q1, q2, q3⟩, u0, u1, u2, u3⟩ := four_facts HS6.out.res
            clear hn6 hr6 hl6 hg6 d5 HND5
            unfold tokV
            go_wp2_with fail
            refine bodyPost_ret (v := .agg #[.string (mkS t.text), .slice ao cn cc, .slice bo bn bc, .int .i64 (t.place : Int)]) (by simp [results, Tryz.results37, go_sem, q0, q1, q2, q3]) rfl ?_
            have hs := HS6.out
            have hlow := four_low w.heap.size w6 (w.heap.size + 1) (.string (mkS t.text)) (.slice ao cn cc) (.slice bo bn bc) (.int .i64 (t.place : Int)) (by omega)
            have h0 := HL1.out
            have h1 := HO.out
            have h2 := HN4.out
            have h3 := HA5.out
            have h4 := HN6.out
            have p1 := hs.p1
            have hsz4 := HS4.out.gr.size
            have hpl4 := (Array.getElem?_eq_some_iff.1 HS4.out.box).1
            refine .inl ⟨⟨t.text, ps, az, t.place⟩, l6, Sp ++ Sa, [.string (mkS t.text), .slice ao cn cc, .slice bo bn bc, .int .i64 (t.place : Int)], ruleF_6 h0.1 h1.1 h2.1 h3.2.2.2.1 h4.1, rfl, hs.rd.below (hlow.mono HH.out.2.1), by omega, ?_, ?_, ?_, grown_then hs.gr hlow⟩
            · have a1 : At (four w6 (w.heap.size + 1) (.string (mkS t.text)) (.slice ao cn cc) (.slice bo bn bc) (.int .i64 (t.place : Int))) (.row 9 1 (ps.map strC)) Sp (.slice ao cn cc) :=
                hs.at_.same _ _ _ (fun g hg => four_same _ _ _ _ _ _ _ (by have := hs.ge g hg; omega))
              have a2 : At (four w6 (w.heap.size + 1) (.string (mkS t.text)) (.slice ao cn cc) (.slice bo bn bc) (.int .i64 (t.place : Int))) (.row 47 6 (az.flatMap altC)) Sa (.slice bo bn bc) :=
                HA6.out.same _ _ _ (fun g hg => four_same _ _ _ _ _ _ _ (by have := h3.2.2.1 g hg; omega))
              have := AtL.plainCons (v := .string (mkS t.text)) (AtL.cons a1 (AtL.cons a2 (AtL.plainCons (v := .int .i64 (t.place : Int)) (AtL.nil _))))
              rw [List.append_nil] at this
              exact this
            · rw [List.nodup_append]
              refine ⟨hs.nd, h3.2.1, fun x hx y hy hxy => ?_⟩
              subst hxy
              have h9 := h3.2.2.1 x hy
              have h8 := At.lt _ _ _ HS4.out.at_ x hx
              omega
            · intro s hs'
              rcases List.mem_append.1 hs' with h9 | h9
              · have := hs.ge s h9; omega
              · have := h3.2.2.1 s h9; omega
          · exact ⟨rfl, .inr ⟨c, q, ruleF_5 HL1.out.1 HO.out.1 HN4.out.1 HA5.out.2.2.2.1 hn6, rfl, grown_trans HS5.out.gr hg6⟩⟩
        · refine ⟨rfl, .inr ⟨c, q, ruleF_4 HL1.out.1 HO.out.1 HN4.out.1 ho5, rfl, ?_⟩⟩
          have hg := HS4.out.gr
          have p1 := HS4.out.p1
          have hsz := hg.size
          exact ⟨hb5.os.trans hg.os, hb5.tape.trans hg.tape, hb5.output.trans hg.output, Nat.le_trans hg.size hb5.size, fun i hi hne => (hb5.block i (by omega) (fun hh => hne (by rw [hh])) (by omega)).trans (hg.block i hi hne)⟩
      · exact ⟨rfl, .inr ⟨c, q, ruleF_3 HL1.out.1 HO.out.1 hn4, rfl, grown_trans HS3.out.gr hg4⟩⟩

    · refine ⟨rfl, .inr ⟨c, q, ruleF_2 HL1.out.1 ho, rfl, ?_⟩⟩
      obtain ⟨hs, hsz⟩ := HS.out
      have hg := hs.gr
      have p1 := hs.p1
      exact ⟨hb3.os.trans hg.os, hb3.tape.trans hg.tape, hb3.output.trans hg.output, Nat.le_trans hg.size hb3.size, fun i hi hne => (hb3.block i (by omega) (fun hh => hne (by rw [hh])) (by omega)).trans (hg.block i hi hne)⟩
  · exact ⟨rfl, .inr ⟨c, q, ruleF_1 hn1, rfl, grown_trans (grown_under HE.out.2.2.1 b) hg1⟩⟩
end Go.Proofs.YtngimijiafnheaaGreat
