/- A word. -/
import Derived.Test.YtngimijiafnheaaGreatRdJ
import Derived.Test.YtngimijiafnheaaGreatRdIb
set_option maxRecDepth 100000
set_option linter.unusedSimpArgs false
namespace LexT
open Go Go.RowKit
set_option linter.unusedVariables false
theorem alloc3 (w : World) (o1 o2 o3 : Obj) : ((((w.alloc o1).alloc o2).alloc o3).heap[w.heap.size]? = some o1 ∧ (((w.alloc o1).alloc o2).alloc o3).heap[w.heap.size + 1]? = some o2 ∧ (((w.alloc o1).alloc o2).alloc o3).heap[w.heap.size + 1 + 1]? = some o3) ∧
    Below w.heap.size w (((w.alloc o1).alloc o2).alloc o3) ∧ (((w.alloc o1).alloc o2).alloc o3).heap.size = w.heap.size + 3 := by
  have h1 : (w.alloc o1).heap.size = w.heap.size + 1 := by simp
  have h2 : ((w.alloc o1).alloc o2).heap.size = w.heap.size + 2 := by simp
  refine ⟨⟨?_, ?_, ?_⟩, (((Below.refl _ _).alloc (Nat.le_refl _) _).alloc (by omega) _).alloc (by omega) _, by simp⟩
  · rw [heap_alloc_old _ _ (by omega), heap_alloc_old _ _ (by omega)]; exact heap_alloc_new w o1
  · rw [heap_alloc_old _ _ (by omega), ← h1]; exact heap_alloc_new _ o2
  · have := heap_alloc_new ((w.alloc o1).alloc o2) o3
    rwa [h2] at this
theorem one_fact {w : World} {g : Nat} {a : Value} {T : TypeId} (h : w.heap[g]? = some (.cells #[a] T (0, 0))) : w.cell? ⟨g, 0, none⟩ = some a ∧ w.frozen? ⟨g, 0, none⟩ = false := by
  constructor <;> simp [World.cell?, World.frozen?, h]
theorem chain_grown {w w1 W1 W2 w3 w4 : World} {b lo p : Nat} (h1 : w.grownBy w1 (some b)) (h2 : Below w1.heap.size w1 W1) (h3 : Below W1.heap.size W1 W2) (h4 : Nx lo b p W2 w3) (h5 : Below w.heap.size w3 w4) (hlo : w.heap.size ≤ lo) (hp : w.heap.size ≤ p) : w.grownBy w4 (some b) := by
  have s1 := h1.size
  have s2 := h2.size
  have s3 := h3.size
  refine ⟨h5.os.trans (h4.os.trans (h3.os.trans (h2.os.trans h1.os))), h5.tape.trans (h4.tape.trans (h3.tape.trans (h2.tape.trans h1.tape))), h5.output.trans (h4.output.trans (h3.output.trans (h2.output.trans h1.output))), by have := h4.size; have := h5.size; omega, fun i hi hne => ?_⟩
  have hib : i ≠ b := fun hh => hne (by rw [hh])
  exact (h5.block i hi).trans ((h4.block i (by omega) hib (by omega)).trans ((h3.block i (by omega)).trans ((h2.block i (by omega)).trans (h1.block i hi hne))))
end LexT
namespace Go.Proofs.YtngimijiafnheaaGreat
open Go.Instr Go.RowKit LexT
set_option linter.unusedVariables false
variable {n b : Nat} {t : Tok} {r l : List Tok}
theorem wordF_ok {f k : Nat} {l l1 l3 : List Tok} {t : Tok} {ws : List Wd} (h1 : nameF l = .ok (t, l1)) (hk : ¬ 60 < k) (h2 : givenF (oneWord f k) (f + 1) [] l1 = some (.ok (ws, l3))) : wordF (f + 1) k l = some (.ok (.mk t.text ws t.place, l3)) := by
  show bnd (some (nameF l)) _ = _
  rw [h1]
  show (if 60 < k then _ else _) = _
  rw [if_neg hk]
  show bnd (givenF (oneWord f k) (f + 1) [] l1) _ = _
  rw [h2]; rfl
theorem wordF_err {f k : Nat} {l l1 : List Tok} {t : Tok} {e : Er} (h1 : nameF l = .ok (t, l1)) (hk : ¬ 60 < k) (h2 : givenF (oneWord f k) (f + 1) [] l1 = some (.error e)) : wordF (f + 1) k l = some (.error e) := by
  show bnd (some (nameF l)) _ = _
  rw [h1]
  show (if 60 < k then _ else _) = _
  rw [if_neg hk]
  show bnd (givenF (oneWord f k) (f + 1) [] l1) _ = _
  rw [h2]; rfl
theorem eg_word1 : ∀ args w, (callFunc 111 args).run Tryz.prog w = .ok (.enter 111 args) w := fun _ _ => by kernel_rfl
set_option maxHeartbeats 4000000 in
theorem word_any : ∀ (f k : Nat) (w : World) (l : List Tok), Rd n w b l → l.length < f → k ≤ 61 →
    Calls Tryz.prog 96 #[.pointer (some ⟨b, 0, none⟩), .int .i64 (k : Int)] w (StrP n b (wdC 50) (wordF f k l) l.length w)
  | 0, k, w, l, h, hf, hk => by omega
  | f + 1, k, w, l, h, hf, hk => by
    have ih := fun (hk : k + 1 ≤ 61) w l h hf => word_any f (k + 1) w l h hf hk
    obtain ⟨⟨e0, e1, e2⟩, hb3, hs3⟩ := alloc3 w (.cells #[.pointer (some ⟨b, 0, none⟩)] 88) (.cells #[.int .i64 (k : Int)] 3) (.cells #[.string ⟨#[]⟩, .slice none 0 0, .int .i64 0] 50)
    have HN := Lib.hid (name_any _ (h.under hb3))
    have HE := Lib.hid (And.intro e0 (And.intro e1 (And.intro e2 (And.intro hb3 hs3))))
    have HIH := Lib.hid ih
    have HH := Lib.hid (And.intro h.lt (And.intro h.le (And.intro hf hk)))
    obtain ⟨⟨c0, _⟩, ⟨c1, _⟩⟩ := And.intro (one_fact e0) (one_fact e1)
    clear h hf ih e0 e1 e2 hb3 hs3
    go_enter Tryz.func96, Tryz.ntmps96
    go_wp2_with fail
    refine HN.out.mono ?_
    rintro e w1 (⟨t, l1, hn1, rfl, hr1, hl1, hg1⟩ | ⟨c, q, hn1, rfl, hg1⟩)
    · have hr1' := hr1
      obtain ⟨e0, e1, e2, hb3, hs3⟩ := HE.out
      obtain ⟨hbn, hnw, hf, hk⟩ := HH.out
      have hsz1 : w.heap.size + 3 ≤ w1.heap.size := by have := hg1.size; omega
      have hkeep : ∀ i, i < w.heap.size + 3 → i ≠ b → w1.heap[i]? = ((((w.alloc (.cells #[.pointer (some ⟨b, 0, none⟩)] 88)).alloc (.cells #[.int .i64 (k : Int)] 3)).alloc (.cells #[.string ⟨#[]⟩, .slice none 0 0, .int .i64 0] 50))).heap[i]? := fun i hi hne => hg1.block i (by omega) (by intro h3; injection h3 with h3; exact hne h3)
      have E0 := (hkeep w.heap.size (by omega) (by omega)).trans e0
      have E1 := (hkeep (w.heap.size + 1) (by omega) (by omega)).trans e1
      have E2 := (hkeep (w.heap.size + 1 + 1) (by omega) (by omega)).trans e2
      have HG1 : Hid (w.grownBy w1 (some b)) := grown_trans (grown_under hb3 b) hg1
      -- the token's own block
      obtain ⟨W1, hW1⟩ : ∃ W1, W1 = w1.alloc (.cells #[.int .u8 (t.kind : Int), .string (mkS t.text), .int .i64 (t.place : Int)] 110) := ⟨_, rfl⟩
      have hbW : Below w1.heap.size w1 W1 := by rw [hW1]; exact (Below.refl _ _).alloc (Nat.le_refl _) _
      have F0 := (hbW.block w.heap.size (by omega)).trans E0
      have F1 := (hbW.block (w.heap.size + 1) (by omega)).trans E1
      obtain ⟨d0, _⟩ := one_fact F0
      obtain ⟨d1, _⟩ := one_fact F1
      have T0 : W1.heap[w1.heap.size]? = some (.cells #[.int .u8 (t.kind : Int), .string (mkS t.text), .int .i64 (t.place : Int)] 110 (0, 0)) := by rw [hW1]; exact heap_alloc_new w1 _
      obtain ⟨⟨t0, t1, t2⟩, _⟩ := three_facts T0
      have hWs : W1.heap.size = w1.heap.size + 1 := by rw [hW1]; simp
      have H1 := Lib.hid (And.intro hn1 (And.intro hr1 (And.intro hl1 (And.intro E2 (And.intro hbW (And.intro F0 (And.intro F1 hWs)))))))
      have HSZ := Lib.hid hsz1
      clear hr1' e0 e1 e2 hb3 hs3 hbn hnw hf hk hkeep E0 E1 E2 hn1 hr1 hl1 hg1 F0 F1 T0 hbW hWs hsz1
      unfold tokV
      have HW1 := Lib.hid hW1
      clear hW1
      by_cases hk60 : 60 < k
      · have i60 : (60 : Int) < (k : Int) := by omega
        have HK := Lib.hid hk60
        clear hk60
        go_upto_region 2 with fail
        rw [← HW1.out]
        go_wp2_with fail
        refine ⟨rfl, .inr ⟨103, t.place, ?_, rfl, grown_then HG1.out (H1.out.2.2.2.2.1.mono HG1.out.size)⟩⟩
        unfold wordF; simp [bnd, H1.out.1, HK.out]
      · have i60 : ¬ (60 : Int) < (k : Int) := by omega
        have HK := Lib.hid hk60
        have HGV : Hid (∀ ww, ww = W1.alloc (.cells #[.string (mkS t.text), .slice none 0 0, .int .i64 (t.place : Int)] 50) →
            Calls Tryz.prog 64 #[.pointer (some ⟨b, 0, none⟩), .func (.func 111) #[] #[.pointer (some ⟨W1.heap.size, 0, none⟩), .pointer (some ⟨w.heap.size, 0, none⟩), .pointer (some ⟨w.heap.size + 1, 0, none⟩)]] ww
              (OneP n b (W1.heap.size + 1) W1.heap.size (WordJ w.heap.size (W1.heap.size + 1) b W1.heap.size w.heap.size (w.heap.size + 1) (.string (mkS t.text)) (.int .i64 (t.place : Int)) k) (l1.length + 1) (givenF (oneWord f k) (f + 1) [] l1) ww)) := by
          intro ww hww
          obtain ⟨hn1, hr1, hl1, E2, hbW, F0, F1, hWs⟩ := H1.out
          obtain ⟨hbn, hnw, hf, hk⟩ := HH.out
          have hsz := HSZ.out
          have hbw : Below W1.heap.size W1 ww := by rw [hww]; exact (Below.refl _ _).alloc (Nat.le_refl _) _
          have hws : ww.heap.size = W1.heap.size + 1 := by rw [hww]; simp
          have hr2 : Rd n ww b l1 := (hr1.under hbW).under hbw
          have hJ0 : WordJ w.heap.size (W1.heap.size + 1) b W1.heap.size w.heap.size (w.heap.size + 1) (.string (mkS t.text)) (.int .i64 (t.place : Int)) k ww [] l1.length := by
            refine ⟨⟨⟨.slice none 0 0, [], ?_, At.empty _ _ _, List.nodup_nil, by simp⟩, ?_, by omega, by omega, by omega, by omega, by omega, by omega, by omega⟩, ?_, by omega, by omega, by omega, ?_⟩
            · rw [hww]; exact heap_alloc_new W1 _
            · exact (hbw.block _ (by omega)).trans F0
            · exact (hbw.block _ (by omega)).trans F1
            · have := hr1.small; simpa using this
          refine given_any 111 _ (oneWord f k) _ (W1.heap.size + 1) W1.heap.size f eg_word1 ?_ ?_ (f + 1) ww [] l1 hr2 hJ0 (by omega) (by omega) (by omega)
          · intro wa wb x m m' hj hm hlo hg
            obtain ⟨hj1, hj2, hj3, hj4, hj5, hj6⟩ := hj
            exact ⟨hj1.keep hg, (hg.block _ (Array.getElem?_eq_some_iff.1 hj2).1 (by intro h3; injection h3 with h3; omega)).trans hj2, hj3, hj4, hj5, by omega⟩
          · intro wa x la hra hla hja hlo
            exact word1_any _ _ wa x la hra hnw (by omega) hja (fun wb lb hrb hlb => HIH.out (by omega) wb lb hrb hlb) hla
        have HL := Lib.hid (show w.heap.size + 1 + 1 < W1.heap.size by have := H1.out.2.2.2.2.2.2.2; have := HSZ.out; omega)
        have hl0 : w.heap.size < W1.heap.size := by have := HL.out; omega
        clear hk60
        go_upto_region 2 with fail
        rw [← HW1.out]
        go_wp2_with fail
        refine (HGV.out _ rfl).mono ?_
        rintro e w3 (⟨ws, l3, ho, rfl, hr3, hl3, hj3, hb3⟩ | ⟨c, q, ho, rfl, hb3⟩)
        · obtain ⟨hj1, hj2, hj3', hj4, hj5, hj6⟩ := hj3
          obtain ⟨v, S, hv, hat, hnd, hge⟩ := hj1.row
          obtain ⟨ao, cn, cc, rfl⟩ : ∃ ao cn cc, v = .slice ao cn cc := by
            unfold At at hat
            obtain ⟨nn, xs, S', _, ho9, _⟩ := hat
            obtain ⟨ao, cc, rfl⟩ := own_form ho9
            exact ⟨ao, nn, cc, rfl⟩
          obtain ⟨⟨p0, p1, p2⟩, _⟩ := three_facts hv
          have hRS : w3.heap[w.heap.size + 1 + 1]? = some (.cells #[.string ⟨#[]⟩, .slice none 0 0, .int .i64 0] 50 (0, 0)) := by
            obtain ⟨hn1, hr1, hl1, E2, hbW, F0, F1, hWs⟩ := H1.out
            have hL := HL.out
            have hH := HH.out
            have hsz := HSZ.out
            rw [hb3.block _ (by omega) (by omega) (by omega), heap_alloc_old _ _ (by omega), hbW.block _ (by omega)]
            exact E2
          obtain ⟨⟨q0, q1, q2⟩, z0, z1, z2⟩ := three_facts hRS
          obtain ⟨e0, e1, e2⟩ := three_cells q0 q1 q2 (.string (mkS t.text)) (.slice ao cn cc) (.int .i64 (t.place : Int))
          have H3 := Lib.hid (And.intro ho (And.intro hr3 (And.intro hl3 (And.intro hat (And.intro hnd (And.intro hge hb3))))))
          have HE3 := Lib.hid (And.intro e0 (And.intro e1 e2))
          clear ho hr3 hl3 hj1 hj2 hj3' hj4 hj5 hj6 hv hat hnd hge hb3 hRS e0 e1 e2
          go_wp2_with fail
          obtain ⟨e0, e1, e2⟩ := HE3.out
          obtain ⟨ho, hr3, hl3, hat, hnd, hge, hb3⟩ := H3.out
          obtain ⟨hn1, hr1, hl1, E2, hbW, F0, F1, hWs⟩ := H1.out
          obtain ⟨hbn, hnw, hf, hk⟩ := HH.out
          have hL := HL.out
          have hlow := three_low (w.heap.size + 1 + 1) w3 (w.heap.size + 1 + 1) (.string (mkS t.text)) (.slice ao cn cc) (.int .i64 (t.place : Int)) (Nat.le_refl _)
          refine bodyPost_ret (v := .agg #[.string (mkS t.text), .slice ao cn cc, .int .i64 (t.place : Int)]) (by simp [results, Tryz.results96, go_sem, e0, e1, e2]) rfl (.inl ⟨.mk t.text ws t.place, l3, S, [.string (mkS t.text), .slice ao cn cc, .int .i64 (t.place : Int)], ?_, rfl, ?_, by omega, ?_, hnd, fun s hs => by have := hge s hs; omega, ?_⟩)
          · exact wordF_ok hn1 HK.out ho
          · exact hr3.below (hlow.mono (by omega))
          · unfold wdC
            have hat' : At ((((w3.setCell ⟨w.heap.size + 1 + 1, 0, none⟩ (.string (mkS t.text))).setCell ⟨w.heap.size + 1 + 1, 1, none⟩ (.slice ao cn cc)).setCell ⟨w.heap.size + 1 + 1, 2, none⟩ (.int .i64 (t.place : Int)))) (.row 50 3 (wdsC 50 ws)) S (.slice ao cn cc) :=
              At.same _ _ _ hat (fun g hg => three_same _ _ _ _ _ _ (by have := hge g hg; omega))
            have := AtL.plainCons (v := .string (mkS t.text)) (AtL.cons hat' (AtL.plainCons (v := .int .i64 (t.place : Int)) (AtL.nil _)))
            simpa [strC] using this
          · exact chain_grown HG1.out hbW ((Below.refl _ _).alloc (Nat.le_refl _) _) hb3 (hlow.mono (by omega)) (by omega) (by omega)
        · refine ⟨rfl, .inr ⟨c, q, wordF_err H1.out.1 HK.out ho, rfl, ?_⟩⟩
          have hL := HL.out
          exact chain_grown HG1.out H1.out.2.2.2.2.1 ((Below.refl _ _).alloc (Nat.le_refl _) _) hb3 (Below.refl _ _) (by omega) (by omega)
    · refine ⟨rfl, .inr ⟨c, q, ?_, rfl, grown_trans (grown_under HE.out.2.2.2.1 b) hg1⟩⟩
      unfold wordF; simp [bnd, hn1]
end Go.Proofs.YtngimijiafnheaaGreat
