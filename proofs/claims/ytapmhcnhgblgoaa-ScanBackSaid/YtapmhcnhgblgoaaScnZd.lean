/- The law's written. -/
import Derived.Test.YtapmhcnhgblgoaaScnZc
import Derived.Deep.CutBlock
set_option maxRecDepth 100000
namespace Go.Proofs.Ytapmhcnhgblgoaa
open Go.Instr Go.RowKit ScnT
set_option linter.unusedVariables false
/-- The bytes so far. -/
structure Ws (w wr : World) (TE : TypeId) (v : Value) (acc : Bs) : Prop where
  own : wr.ownsRow w.heap.size TE 1 v acc.length (Lib.byteCells acc)
  bel : Below w.heap.size w wr
theorem nil_form {w : World} {base : Nat} {e : TypeId} {v : Value} {n : Nat} {xs : List Value} (h : w.ownsRow base e 1 v n xs) : (v = .slice none 0 0 ∧ n = 0) ∨ ∃ g c, v = .slice (some ⟨g, 0, none⟩) n c := by
  rcases h.2 with h0 | ⟨g, cap, cur, hv, _⟩
  · exact .inl h0
  · exact .inr ⟨g, cap, hv⟩
theorem own_under {w1 w2 : World} {base : Nat} {e : TypeId} {size : Nat} {v : Value} {n : Nat} {xs : List Value} (h : w1.ownsRow base e size v n xs) (hb : Below w1.heap.size w1 w2) : w2.ownsRow base e size v n xs := by
  refine ⟨h.1, ?_⟩
  rcases h.2 with h0 | ⟨g, cap, cur, hv, hbg, hg, hrest⟩
  · exact .inl h0
  · exact .inr ⟨g, cap, cur, hv, hbg, (hb.block g (Array.getElem?_eq_some_iff.1 hg).1).trans hg, hrest⟩
set_option maxHeartbeats 4000000 in
theorem written_any (ts : List Tok) (ao : Option Addr) (c : Nat) (w : World) (h : ToksAt w ao c ts) (hn : ts.length ≤ 70000) (ht : ∀ t ∈ ts, t.text.length ≤ 65536) :
    Calls Try.prog 7 #[.slice ao ts.length c] w fun e w' => e = .returned (.string (mkS (writtenB (ts.take (ts.length - 1))))) ∧ Below w.heap.size w w' := by
  obtain ⟨i0, hi, hz0, hz1, hz2⟩ := info_parts Try.infoByte
  have HI := Lib.hid hi
  have HZ := Lib.hid (And.intro hz0 (And.intro hz1 hz2))
  clear hi hz0 hz1 hz2
  have HH := Lib.hid h
  have HTX := Lib.hid ht
  have hcl := h.len
  have hcc := h.cap
  unfold maxLen at hcc
  clear h ht
  have HW0 : Hid (Ws w w 5 (.slice none 0 0) []) := ⟨World.ownsRow_nil _ _ _ _, Below.refl _ _⟩
  go_enter Try.func7, Try.ntmps7
  go_wp2_with fail
  go_loopg [3, 4] ts.length (fun g v3 v4 wr => ∃ k : Nat, (k + 1 ≤ ts.length ∨ k = 0) ∧ g = ts.length - k ∧ v4 = .int .i64 (k : Int) ∧ Ws w wr 5 v3 (writtenB (ts.take k)))
  case atStart => exact ⟨0, .inr rfl, rfl, rfl, HW0.out⟩
  case round =>
    obtain ⟨k, hk, hgk, rfl, hW⟩ := hrel
    have HGK := Lib.hid hgk
    have hl0 : (writtenB (ts.take k)).length ≤ 70000 * 262147 := by
      have h1 := written_le (ts.take k) (fun t ht => HTX.out t (List.mem_of_mem_take ht))
      have h2 : (ts.take k).length ≤ 70000 := by rw [List.length_take]; omega
      exact Nat.le_trans h1 (Nat.mul_le_mul_right 262147 h2)
    have HL1 : Hid ((writtenB (ts.take k)).length + 300000 ≤ 140737488355328) := Nat.le_trans (Nat.add_le_add_right hl0 _) (by decide)
    clear hl0
    have hws := hW.bel.size
    have HW := Lib.hid hW
    clear hgk hW HW0
    by_cases hlt : k + 1 < ts.length
    · obtain ⟨t, ht⟩ : ∃ t, ts[k]? = some t := ⟨_, List.getElem?_eq_getElem (by omega)⟩
      obtain ⟨g, hg, hgl, d0, d1, d2⟩ := (HH.out.under HW.out.bel).at_ k t ht
      subst hg
      have HSN := Lib.hid (written_snoc ts k t ht)
      have htl := HTX.out t (List.mem_of_getElem? ht)
      obtain ⟨x, hx⟩ : ∃ x, mkS t.text = x := ⟨_, rfl⟩
      have hxs : x.size ≤ 65536 := by rw [← hx]; simpa using htl
      have hxd : x.data.toList = t.text := by rw [← hx]; simp
      rw [hx] at d1
      have HX := Lib.hid hx
      have HXD := Lib.hid hxd
      clear ht hx hxd
      go_upto_block 2 with fail
      go_cut [5] (fun v5 wz => v5 = .string (mkS (spell t.kind t.text)) ∧ Below wr.heap.size wr wz)
      case first =>
        by_cases h5 : t.kind = 5
        · have e5 : ((t.kind : Int) == 5) = true := by simp [h5]
          have HQ := Lib.hid (fun ww => Quote_any x ww (by omega))
          have HS : Hid (mkS (quoteB x.data.toList) = mkS (spell t.kind t.text)) := by
            show _ = _
            rw [HXD.out, h5]
            rfl
          clear h5
          go_wp2_with fail
          refine (HQ.out wr).mono ?_
          rintro e w3 ⟨rfl, hb3⟩
          have HB3 := Lib.hid hb3
          clear hb3
          go_wp2_with fail
          go_meet
          exact ⟨by rw [HS.out], HB3.out⟩
        · have e5 : ((t.kind : Int) == 5) = false := by simp; omega
          by_cases h8 : t.kind = 8
          · have e8 : ((t.kind : Int) == 8) = true := by simp [h8]
            have HS : Hid ((⟨#[36]⟩ : ByteArray) ++ x = mkS (spell t.kind t.text)) := by
              show _ = _
              rw [← HX.out, h8, show (⟨#[36]⟩ : ByteArray) = mkS [36] from rfl, mkS_append]
              rfl
            clear h5 h8
            go_wp2_with fail
            go_meet
            exact ⟨by rw [HS.out], Below.refl _ _⟩
          · have e8 : ((t.kind : Int) == 8) = false := by simp; omega
            have HS : Hid (x = mkS (spell t.kind t.text)) := by
              show _ = _
              rw [← HX.out]
              unfold spell
              simp [h5, h8]
            clear h5 h8
            go_wp2_with fail
            go_meet
            exact ⟨by rw [← HS.out], Below.refl _ _⟩
      case rest =>
        obtain ⟨rfl, hbz⟩ := hcut
        have HBZ := Lib.hid hbz
        have hwz := hbz.size
        clear hbz d0 d1 d2
        have hsl : (spell t.kind t.text).length ≤ 262146 := by have := spell_le t.kind t.text; omega
        obtain ⟨y, hy⟩ : ∃ y, mkS (spell t.kind t.text) = y := ⟨_, rfl⟩
        have hys : y.size ≤ 262146 := by rw [← hy]; simpa using hsl
        have HY := Lib.hid hy
        rw [hy]
        clear hy hsl
        have HO : Hid (wc.ownsRow w.heap.size 5 1 u3 (writtenB (ts.take k)).length (Lib.byteCells (writtenB (ts.take k)))) := own_under HW.out.own HBZ.out
        generalize hacc : writtenB (ts.take k) = acc at *
        clear hacc
        go_wp2_with (at_builtin; refine Lib.wpList_append_own_string _ rfl _ _ 45 9 rfl w.heap.size 5 i0 Try.underlying45 Try.underlying9 HI.out HZ.out.1 HZ.out.2.1 HZ.out.2.2 _ _ _ rfl HO.out y rfl ?c3 ?c4 ?c5 ?_)
        case c3 => have := HL1.out; unfold maxLen; omega
        case c4 => have := HL1.out; omega
        case c5 => omega
        intro v1 w4 ho4 hg4 _
        have HG4 : Hid (Below w.heap.size wc w4) := by show Below _ _ _; exact (Below.refl _ _).grown hg4 (by omega) (fun g hh => (HO.out.lt g hh).1)
        have hw4 := hg4.size
        have HO4 := Lib.hid ho4
        clear ho4 hg4
        go_wp2_with (at_builtin; refine wpList_append_own _ rfl _ _ 45 rfl w.heap.size 5 i0 (.int .u8 0) 1 1 Try.underlying45 HI.out HZ.out.1 HZ.out.2.1 HZ.out.2.2 rfl (by decide) _ _ _ rfl (HO4.out.alloc _) ⟨w4.heap.size, 0, none⟩ 1 1 [.int .u8 32] rfl rfl ?e1 ?e2 ?e3 ?e4 ?e5 ?_)
        case e1 =>
          intro j u hj
          match j, hj with
          | 0, hj => simp at hj; subst hj; simp [Addr.add]
        case e2 => intro u hu; simp at hu; subst hu; rfl
        case e3 => have := HL1.out; unfold maxLen; omega
        case e4 => have := HL1.out; omega
        case e5 => simp; omega
        intro v2 w5 ho5 hg5 _
        have HWS : Hid (Ws w w5 5 v2 (writtenB (ts.take (k + 1)))) := by
          refine ⟨?_, ?_⟩
          · rw [HSN.out]
            have h1 : (acc ++ spell t.kind t.text ++ [32]).length = acc.length + y.size + 1 := by rw [← HY.out]; simp; omega
            have h2 : Lib.byteCells (acc ++ spell t.kind t.text ++ [32]) = Lib.byteCells acc ++ Lib.strCells y ++ [.int .u8 32] := by
              rw [← HY.out, strCells_mk]; simp [Lib.byteCells]
            rw [h1, h2, List.append_assoc]
            exact ho5
          · refine ((HW.out.bel.trans (HBZ.out.mono hws)).trans HG4.out).trans ?_
            exact ((Below.refl w.heap.size w4).alloc (by omega) _).grown hg5 (by simp; omega) (fun g hh => (HO4.out.lt g hh).1)
        clear ho5 hg5
        go_wp2_with fail
        go_roundg (ts.length - (k + 1))
        case rel => exact ⟨k + 1, .inl (by omega), rfl, by go_num, HWS.out⟩
        case measure => rw [HGK.out]; omega
    · have HE : Hid (writtenB (ts.take k) = writtenB (ts.take (ts.length - 1))) := by
        show _ = _
        by_cases h0 : ts.length = 0
        · have : ts = [] := List.eq_nil_of_length_eq_zero h0
          subst this
          simp
        · have : k = ts.length - 1 := by omega
          rw [this]
      generalize writtenB (ts.take k) = acc at *
      rcases nil_form HW.out.own with ⟨hv, h0⟩ | ⟨g, cc, hv⟩
      · subst hv
        have hacc : acc = [] := List.eq_nil_of_length_eq_zero h0
        have hcv : ∀ W, (convert 45 9 (.slice none 0 0)).run Try.prog W = .ok (.string ⟨#[]⟩) W := fun W => Lib.run_convert_nil_bytes W 45 9 5 0 Try.underlying45 Try.underlying5 Try.underlying9
        have HA := Lib.hid hacc
        clear hacc h0
        go_wp2_with fail
        go_ret
        exact ⟨by rw [← HE.out, HA.out]; rfl, HW.out.bel⟩
      · subst hv
        have hcv : (convert 45 9 (.slice (some ⟨g, 0, none⟩) acc.length cc)).run Try.prog wr = .ok (.string ⟨acc.toArray⟩) wr := run_convert_bytes_back wr 45 9 5 ⟨g, 0, none⟩ cc acc Try.underlying45 Try.underlying5 Try.underlying9 (fun j hj => HW.out.own.cells (g := g) rfl j _ (by simp [Lib.byteCells, hj]))
        go_wp2_with fail
        go_ret
        exact ⟨by rw [← HE.out]; rfl, HW.out.bel⟩
end Go.Proofs.Ytapmhcnhgblgoaa
