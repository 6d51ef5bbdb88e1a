import Derived.Test.YtldedhfbpongmaaDoorNodAl
set_option maxRecDepth 100000
namespace NodT
open Go
/-- What a visit asks of a node that lies d deep under a root of kind rk, m nodes being counted ahead of its kids. -/
def visitB (rk : Nat) (m d : Int) (t : Nd) : Bool :=
  decide (m + (t.kids.length : Int) ≤ 32768) && decide (d ≤ 60) && (!(t.kind == 35) || rk == 9) && decide (0 ≤ t.place) && textB t.kind t.text && numB t.kind t.num && kidsB t
end NodT
namespace Go.Proofs.YtldedhfbpongmaaDoor
open Go.Instr Go.RowKit NodT
set_option linter.unusedVariables false
/-- What a visit leaves. -/
def Visited (ok : Bool) (bm : Nat) (m' : Int) (w : World) (e : Ending) (w' : World) : Prop :=
  (ok = true ∧ e = .returned (.tuple #[]) ∧ w.grownBy w' (some bm) ∧ w'.cell? ⟨bm, 0, none⟩ = some (.int .i64 m') ∧ w'.frozen? ⟨bm, 0, none⟩ = false) ∨ (ok = false ∧ e = .panicked misfits ∧ w.grownBy w' (some bm))
theorem set_grown (w : World) (bm : Nat) (o : Obj) (v : Value) (hbm : bm < w.heap.size) : w.grownBy ((w.setCell ⟨bm, 0, none⟩ v).alloc o) (some bm) :=
  ⟨rfl, rfl, rfl, by simp [World.setCell], fun k hk hne => (heap_alloc_old _ _ (by simpa [World.setCell] using hk)).trans (Below.heap_setCell _ _ _ _ (by rintro rfl; exact hne rfl))⟩
theorem grown_below {a b c : World} {bm : Nat} (h : a.grownBy b (some bm)) (k : Below b.heap.size b c) : a.grownBy c (some bm) :=
  ⟨k.os.trans h.os, k.tape.trans h.tape, k.output.trans h.output, Nat.le_trans h.size k.size, fun i hi hne => (k.block i (Nat.lt_of_lt_of_le hi h.size)).trans (h.block i hi hne)⟩
set_option maxHeartbeats 4000000 in
theorem Right2_any (t : Nd) (d m : Int) (rk bm bn B : Nat) (w : World) (hm0 : 0 ≤ m) (hm1 : m ≤ 10000000) (hd0 : 0 ≤ d) (hd1 : d ≤ 10000000) (hlen : t.kids.length ≤ 10000000) (hrk : rk < 256) (cm : w.cell? ⟨bm, 0, none⟩ = some (.int .i64 m)) (fm : w.frozen? ⟨bm, 0, none⟩ = false) (cn : w.cell? ⟨bn, 0, none⟩ = some (.int .u8 rk)) (hne : bm ≠ bn) (ho : OpsAt 0 w) (hob : 0 < bm) (h : In w B t) (hB : B ≤ bm) :
    Calls Tryd.prog 25 #[t.look d, .pointer (some ⟨bm, 0, none⟩), .pointer (some ⟨bn, 0, none⟩)] w (Visited (visitB rk m d t) bm (m + t.kids.length) w) := by
  have hbm : bm < w.heap.size := World.block_lt_of_cell? _ _ cm
  have hbn : bn < w.heap.size := World.block_lt_of_cell? _ _ cn
  have hV : visitB rk m d t = (decide (m + (t.kids.length : Int) ≤ 32768) && decide (d ≤ 60) && (!(t.kind == 35) || rk == 9) && decide (0 ≤ t.place) && textB t.kind t.text && numB t.kind t.num && kidsB t) := rfl
  generalize visitB rk m d t = ok at hV ⊢
  have HV := Lib.hid hV
  have HF := Lib.hid h.fits
  have hf := h.fits
  have hz1 := hf.len
  have hz2 := hf.cap
  have hp1 := hf.place
  unfold maxLen at hz2
  have HG : Hid (∀ v, w.grownBy ((w.setCell ⟨bm, 0, none⟩ v).alloc (.cells #[.int .u8 t.kind, .string t.text, .int .i64 t.num, .int .i64 t.place, .slice t.addr t.kids.length t.cap, .int .i64 d] 42)) (some bm)) := fun v => set_grown w bm _ v hbm
  have HLB : Hid (∀ v, LookBox ((w.setCell ⟨bm, 0, none⟩ v).alloc (.cells #[.int .u8 t.kind, .string t.text, .int .i64 t.num, .int .i64 t.place, .slice t.addr t.kids.length t.cap, .int .i64 d] 42)) w.heap.size t d t.addr t.kids.length t.cap) := fun v => by
    have hn : w.heap.size = (w.setCell ⟨bm, 0, none⟩ v).heap.size := by simp [World.setCell]
    rw [hn]
    constructor <;> simp [go_sem]
  have HIN : Hid (∀ v, In ((w.setCell ⟨bm, 0, none⟩ v).alloc (.cells #[.int .u8 t.kind, .string t.text, .int .i64 t.num, .int .i64 t.place, .slice t.addr t.kids.length t.cap, .int .i64 d] 42)) B t) := fun v => (h.setCell hB _).alloc (by simp only [World.setCell, Array.size_modify]; omega) _
  have HO : Hid (∀ v, OpsAt 0 ((w.setCell ⟨bm, 0, none⟩ v).alloc (.cells #[.int .u8 t.kind, .string t.text, .int .i64 t.num, .int .i64 t.place, .slice t.addr t.kids.length t.cap, .int .i64 d] 42))) := fun v => by
    obtain ⟨tt, fr, hg⟩ := ho
    exact ⟨tt, fr, (heap_alloc_old _ _ (by simp only [World.setCell, Array.size_modify]; omega)).trans ((Below.heap_setCell _ _ _ _ (by show ¬ 0 = bm; omega)).trans hg)⟩
  have HM : Hid (∀ v, ((w.setCell ⟨bm, 0, none⟩ v).alloc (.cells #[.int .u8 t.kind, .string t.text, .int .i64 t.num, .int .i64 t.place, .slice t.addr t.kids.length t.cap, .int .i64 d] 42)).cell? ⟨bm, 0, none⟩ = some v ∧ ((w.setCell ⟨bm, 0, none⟩ v).alloc (.cells #[.int .u8 t.kind, .string t.text, .int .i64 t.num, .int .i64 t.place, .slice t.addr t.kids.length t.cap, .int .i64 d] 42)).frozen? ⟨bm, 0, none⟩ = false ∧ bm < ((w.setCell ⟨bm, 0, none⟩ v).alloc (.cells #[.int .u8 t.kind, .string t.text, .int .i64 t.num, .int .i64 t.place, .slice t.addr t.kids.length t.cap, .int .i64 d] 42)).heap.size) := fun v => by
    refine ⟨?_, ?_, ?_⟩
    · rw [World.cell?_alloc_lt _ _ _ (by simpa [World.setCell] using hbm)]
      exact World.cell?_setCell_same _ _ _ cm
    · exact (World.frozen?_of_block (heap_alloc_old _ _ (by simpa [World.setCell] using hbm))).trans (by simp [go_sem, fm])
    · simp [World.setCell]; omega
  clear hV h hf ho
  have hnb : ¬ bn = bm := fun e => hne e.symm
  unfold Nd.look Nd.row
  by_cases c1 : m + (t.kids.length : Int) ≤ 32768
  · by_cases c2 : d ≤ 60
    · by_cases e1 : t.kind = 35
      · by_cases e2 : rk = 9
        · have hB2 : (!(t.kind == 35) || rk == 9) = true := by simp [e2]
          have b1 : ((t.kind : Int) != 35) = false := by simp [e1]
          have b2 : ((rk : Int) == 9) = true := by simp [e2]
          clear e1 e2
          have hfac : Hid (ok = (decide (0 ≤ t.place) && textB t.kind t.text && numB t.kind t.num && kidsB t)) := by show _ = _; rw [HV.out]; simp [c1, c2, hB2]
          clear hB2 HV
          go_enter Tryd.func25, Tryd.ntmps25
          go_upto_region 4 with (go_at_call 23; refine (must_yes _).mono ?_; rintro e w' ⟨rfl, rfl⟩)
          have hb := HG.out (.int .i64 (m + t.kids.length))
          have lb := HLB.out (.int .i64 (m + t.kids.length))
          have hin := HIN.out (.int .i64 (m + t.kids.length))
          have hop := HO.out (.int .i64 (m + t.kids.length))
          have hmm := HM.out (.int .i64 (m + t.kids.length))
          generalize (w.setCell ⟨bm, 0, none⟩ (.int .i64 (m + t.kids.length))).alloc (.cells #[.int .u8 t.kind, .string t.text, .int .i64 t.num, .int .i64 t.place, .slice t.addr t.kids.length t.cap, .int .i64 d] 42) = W2 at *
          have HTX := Lib.hid (hasItsText_any t d W2 HF.out.text hop)
          have HNU := Lib.hid (fun V => hasItsNum_any t d V)
          have HLK : Hid (∀ V, Below W2.heap.size W2 V → LookBox V w.heap.size t d t.addr t.kids.length t.cap ∧ V.cell? ⟨bm, 0, none⟩ = some (.int .i64 (m + t.kids.length)) ∧ V.frozen? ⟨bm, 0, none⟩ = false ∧ w.grownBy V (some bm)) := fun V hv =>
            ⟨lb.under hv lb.lt, (hv.cell (by exact hmm.2.2)).trans hmm.1, (hv.frozen (by exact hmm.2.2)).trans hmm.2.1, grown_below hb hv⟩
          have HTK : Hid (∀ V, Below W2.heap.size W2 V → Calls Tryd.prog 28 #[t.look d] V (Passes (kidsB t) V)) := fun V hv => takeKids_any t d V B (hin.under (hv.mono (by omega))) (by have := hv.size; omega)
          have hlbw := lb.lt
          obtain ⟨q0, q1, q2, q3, q4, q5, _⟩ := lb
          unfold Nd.look Nd.row at HTX HNU HTK
          clear hb hin hop hmm HG HLB HIN HO HM
          by_cases c5 : 0 ≤ t.place
          · cases hx : textB t.kind t.text
            · have hok : Hid (ok = false) := by show _ = _; rw [hfac.out, hx]; simp
              rw [hx] at HTX
              clear hx hfac
              go_wp2_with (first | (go_at_call 26; refine HTX.out.mono ?_; rintro e w5 ⟨rfl, hb5⟩; obtain ⟨⟨r0, r1, r2, r3, r4, r5, _⟩, r6, r7, r8⟩ := HLK.out _ hb5) | (go_at_call 23; refine (must_no _).mono ?_; rintro e w' ⟨rfl, rfl⟩))
              refine ⟨rfl, ?_⟩
              exact .inr ⟨hok.out, rfl, (HLK.out _ hb5).2.2.2⟩
            · cases hn : numB t.kind t.num
              · have hok : Hid (ok = false) := by show _ = _; rw [hfac.out, hn]; simp
                rw [hx] at HTX
                rw [hn] at HNU
                clear hx hn hfac
                go_wp2_with (first | (go_at_call 26; refine HTX.out.mono ?_; rintro e w5 ⟨rfl, hb5⟩; obtain ⟨⟨r0, r1, r2, r3, r4, r5, _⟩, r6, r7, r8⟩ := HLK.out _ hb5) | (go_at_call 27; refine (HNU.out _).mono ?_; rintro e w6 ⟨rfl, hb6⟩; have hb7 := below_step hb5 hb6 hb5.size) | (go_at_call 23; refine (must_no _).mono ?_; rintro e w' ⟨rfl, rfl⟩))
                refine ⟨rfl, ?_⟩
                exact .inr ⟨hok.out, rfl, (HLK.out _ hb7).2.2.2⟩
              · have hfac2 : Hid (ok = kidsB t) := by show _ = _; rw [hfac.out, hx, hn]; simp [c5]
                rw [hx] at HTX
                rw [hn] at HNU
                clear hx hn hfac
                go_wp2_with (first | (go_at_call 26; refine HTX.out.mono ?_; rintro e w5 ⟨rfl, hb5⟩; obtain ⟨⟨r0, r1, r2, r3, r4, r5, _⟩, r6, r7, r8⟩ := HLK.out _ hb5) | (go_at_call 27; refine (HNU.out _).mono ?_; rintro e w6 ⟨rfl, hb6⟩; have hb7 := below_step hb5 hb6 hb5.size; obtain ⟨⟨s0, s1, s2, s3, s4, s5, _⟩, s6, s7, s8⟩ := HLK.out _ hb7) | (go_at_call 23; refine (must_yes _).mono ?_; rintro e w' ⟨rfl, rfl⟩))
                refine (HTK.out _ hb7).mono ?_
                rintro e w8 (⟨hk, rfl, hb8⟩ | ⟨hk, rfl, hb8⟩)
                · have hb9 := below_step hb7 hb8 hb7.size
                  have HB9 := Lib.hid hb9
                  have HK := Lib.hid hk
                  clear hk hb9
                  go_wp2_with fail
                  go_end0
                  obtain ⟨_, z1, z2, z3⟩ := HLK.out _ HB9.out
                  exact .inl ⟨by rw [hfac2.out, HK.out], rfl, z3, z1, z2⟩
                · have hb9 := below_step hb7 hb8 hb7.size
                  have HB9 := Lib.hid hb9
                  have HK := Lib.hid hk
                  clear hk hb9
                  go_wp2_with fail
                  refine ⟨rfl, ?_⟩
                  exact .inr ⟨by rw [hfac2.out, HK.out], rfl, (HLK.out _ HB9.out).2.2.2⟩
          · have hok : Hid (ok = false) := by show _ = _; rw [hfac.out]; simp [c5]
            clear hfac
            go_wp2_with (go_at_call 23; refine (must_no _).mono ?_; rintro e w' ⟨rfl, rfl⟩)
            refine ⟨rfl, ?_⟩
            exact .inr ⟨hok.out, rfl, (HLK.out _ (Below.refl _ _)).2.2.2⟩
        · have hok : Hid (ok = false) := by show _ = _; rw [HV.out]; simp [e1, e2]
          have b1 : ((t.kind : Int) != 35) = false := by simp [e1]
          have b2 : ((rk : Int) == 9) = false := by rw [beq_eq_false_iff_ne]; omega
          clear e1 e2
          go_enter Tryd.func25, Tryd.ntmps25
          go_wp2_with (first | (go_at_call 23; refine (must_yes _).mono ?_; rintro e w' ⟨rfl, rfl⟩) | (go_at_call 23; refine (must_no _).mono ?_; rintro e w' ⟨rfl, rfl⟩))
          refine ⟨rfl, ?_⟩
          exact .inr ⟨hok.out, rfl, HG.out _⟩
      · have hB2 : (!(t.kind == 35) || rk == 9) = true := by simp [e1]
        have b1 : ((t.kind : Int) != 35) = true := by simp; omega
        clear e1
        have hfac : Hid (ok = (decide (0 ≤ t.place) && textB t.kind t.text && numB t.kind t.num && kidsB t)) := by show _ = _; rw [HV.out]; simp [c1, c2, hB2]
        clear hB2 HV
        go_enter Tryd.func25, Tryd.ntmps25
        go_upto_region 4 with (go_at_call 23; refine (must_yes _).mono ?_; rintro e w' ⟨rfl, rfl⟩)
        have hb := HG.out (.int .i64 (m + t.kids.length))
        have lb := HLB.out (.int .i64 (m + t.kids.length))
        have hin := HIN.out (.int .i64 (m + t.kids.length))
        have hop := HO.out (.int .i64 (m + t.kids.length))
        have hmm := HM.out (.int .i64 (m + t.kids.length))
        generalize (w.setCell ⟨bm, 0, none⟩ (.int .i64 (m + t.kids.length))).alloc (.cells #[.int .u8 t.kind, .string t.text, .int .i64 t.num, .int .i64 t.place, .slice t.addr t.kids.length t.cap, .int .i64 d] 42) = W2 at *
        have HTX := Lib.hid (hasItsText_any t d W2 HF.out.text hop)
        have HNU := Lib.hid (fun V => hasItsNum_any t d V)
        have HLK : Hid (∀ V, Below W2.heap.size W2 V → LookBox V w.heap.size t d t.addr t.kids.length t.cap ∧ V.cell? ⟨bm, 0, none⟩ = some (.int .i64 (m + t.kids.length)) ∧ V.frozen? ⟨bm, 0, none⟩ = false ∧ w.grownBy V (some bm)) := fun V hv =>
          ⟨lb.under hv lb.lt, (hv.cell (by exact hmm.2.2)).trans hmm.1, (hv.frozen (by exact hmm.2.2)).trans hmm.2.1, grown_below hb hv⟩
        have HTK : Hid (∀ V, Below W2.heap.size W2 V → Calls Tryd.prog 28 #[t.look d] V (Passes (kidsB t) V)) := fun V hv => takeKids_any t d V B (hin.under (hv.mono (by omega))) (by have := hv.size; omega)
        have hlbw := lb.lt
        obtain ⟨q0, q1, q2, q3, q4, q5, _⟩ := lb
        unfold Nd.look Nd.row at HTX HNU HTK
        clear hb hin hop hmm HG HLB HIN HO HM
        by_cases c5 : 0 ≤ t.place
        · cases hx : textB t.kind t.text
          · have hok : Hid (ok = false) := by show _ = _; rw [hfac.out, hx]; simp
            rw [hx] at HTX
            clear hx hfac
            go_wp2_with (first | (go_at_call 26; refine HTX.out.mono ?_; rintro e w5 ⟨rfl, hb5⟩; obtain ⟨⟨r0, r1, r2, r3, r4, r5, _⟩, r6, r7, r8⟩ := HLK.out _ hb5) | (go_at_call 23; refine (must_no _).mono ?_; rintro e w' ⟨rfl, rfl⟩))
            refine ⟨rfl, ?_⟩
            exact .inr ⟨hok.out, rfl, (HLK.out _ hb5).2.2.2⟩
          · cases hn : numB t.kind t.num
            · have hok : Hid (ok = false) := by show _ = _; rw [hfac.out, hn]; simp
              rw [hx] at HTX
              rw [hn] at HNU
              clear hx hn hfac
              go_wp2_with (first | (go_at_call 26; refine HTX.out.mono ?_; rintro e w5 ⟨rfl, hb5⟩; obtain ⟨⟨r0, r1, r2, r3, r4, r5, _⟩, r6, r7, r8⟩ := HLK.out _ hb5) | (go_at_call 27; refine (HNU.out _).mono ?_; rintro e w6 ⟨rfl, hb6⟩; have hb7 := below_step hb5 hb6 hb5.size) | (go_at_call 23; refine (must_no _).mono ?_; rintro e w' ⟨rfl, rfl⟩))
              refine ⟨rfl, ?_⟩
              exact .inr ⟨hok.out, rfl, (HLK.out _ hb7).2.2.2⟩
            · have hfac2 : Hid (ok = kidsB t) := by show _ = _; rw [hfac.out, hx, hn]; simp [c5]
              rw [hx] at HTX
              rw [hn] at HNU
              clear hx hn hfac
              go_wp2_with (first | (go_at_call 26; refine HTX.out.mono ?_; rintro e w5 ⟨rfl, hb5⟩; obtain ⟨⟨r0, r1, r2, r3, r4, r5, _⟩, r6, r7, r8⟩ := HLK.out _ hb5) | (go_at_call 27; refine (HNU.out _).mono ?_; rintro e w6 ⟨rfl, hb6⟩; have hb7 := below_step hb5 hb6 hb5.size; obtain ⟨⟨s0, s1, s2, s3, s4, s5, _⟩, s6, s7, s8⟩ := HLK.out _ hb7) | (go_at_call 23; refine (must_yes _).mono ?_; rintro e w' ⟨rfl, rfl⟩))
              refine (HTK.out _ hb7).mono ?_
              rintro e w8 (⟨hk, rfl, hb8⟩ | ⟨hk, rfl, hb8⟩)
              · have hb9 := below_step hb7 hb8 hb7.size
                have HB9 := Lib.hid hb9
                have HK := Lib.hid hk
                clear hk hb9
                go_wp2_with fail
                go_end0
                obtain ⟨_, z1, z2, z3⟩ := HLK.out _ HB9.out
                exact .inl ⟨by rw [hfac2.out, HK.out], rfl, z3, z1, z2⟩
              · have hb9 := below_step hb7 hb8 hb7.size
                have HB9 := Lib.hid hb9
                have HK := Lib.hid hk
                clear hk hb9
                go_wp2_with fail
                refine ⟨rfl, ?_⟩
                exact .inr ⟨by rw [hfac2.out, HK.out], rfl, (HLK.out _ HB9.out).2.2.2⟩
        · have hok : Hid (ok = false) := by show _ = _; rw [hfac.out]; simp [c5]
          clear hfac
          go_wp2_with (go_at_call 23; refine (must_no _).mono ?_; rintro e w' ⟨rfl, rfl⟩)
          refine ⟨rfl, ?_⟩
          exact .inr ⟨hok.out, rfl, (HLK.out _ (Below.refl _ _)).2.2.2⟩
    · have hok : Hid (ok = false) := by show _ = _; rw [HV.out]; simp [c2]
      go_enter Tryd.func25, Tryd.ntmps25
      go_wp2_with (go_at_call 23; refine (must_no _).mono ?_; rintro e w' ⟨rfl, rfl⟩)
      refine ⟨rfl, ?_⟩
      exact .inr ⟨hok.out, rfl, HG.out _⟩
  · have hok : Hid (ok = false) := by show _ = _; rw [HV.out]; simp [c1]
    go_enter Tryd.func25, Tryd.ntmps25
    go_wp2_with (go_at_call 23; refine (must_no _).mono ?_; rintro e w' ⟨rfl, rfl⟩)
    refine ⟨rfl, ?_⟩
    exact .inr ⟨hok.out, rfl, HG.out _⟩
end Go.Proofs.YtldedhfbpongmaaDoor
