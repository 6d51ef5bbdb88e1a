import Derived.Test.YtldedhfbpongmaaDoorNodZ
set_option maxRecDepth 100000
namespace NodT
open Go
theorem fitsQ_rep_all (p : Nd → Bool) (K : List Nd) : fitsQ (List.replicate K.length p) K = K.all p := by
  induction K with
  | nil => rfl
  | cons k ks ih => simp only [List.length_cons, List.replicate_succ, fitsQ, List.all_cons, ih]
end NodT
namespace Go.Proofs.YtldedhfbpongmaaDoor
open Go.Instr Go.RowKit NodT
set_option linter.unusedVariables false
set_option maxHeartbeats 2000000 in
theorem times_any (t : Nd) (d : Int) (bl B base : Nat) (A : Option Addr) (c : Nat) (K : List Nd) (v : Value) (p : Nd → Bool) (n : Int) (hn1 : -9223372036854775808 ≤ n) (hn2 : n ≤ 9223372036854775807) (w : World) (hlb : LookBox w bl t d A K.length c) (hin : InL w B A c K) (hbl : bl < base) (hBb : B ≤ bl) (hbw : base ≤ w.heap.size) (hq : Quest w base v p) :
    Calls Tryd.prog 51 #[.pointer (some ⟨bl, 0, none⟩), .int .i64 n, v] w (TookOr (fitsQ (List.replicate n.toNat p) K) t d bl B (K.drop n.toNat) w) := by
  rcases hq.form with ⟨bq, rfl⟩ | rfl
  · go_enter Tryd.func51, Tryd.ntmps51
    go_wp2_with fail
    go_loopg [7] n.toNat (fun gg i wr => ∃ (j : Nat) (A' : Option Addr) (c' : Nat), j ≤ n.toNat ∧ gg = n.toNat - j ∧ i = .int .i64 j ∧ LookBox wr bl t d A' (K.drop j).length c' ∧ InL wr B A' c' (K.drop j) ∧ w.grownBy wr (some bl) ∧ fitsQ (List.replicate n.toNat p) K = fitsQ (List.replicate (n.toNat - j) p) (K.drop j))
    case atStart => exact ⟨0, A, c, by omega, rfl, rfl, hlb, hin, ⟨rfl, rfl, rfl, Nat.le_refl _, fun _ _ _ => rfl⟩, rfl⟩
    case round =>
      obtain ⟨j, A', c', hj, hgk, rfl, hlb', hin', hgr, hfit⟩ := hrel
      clear hlb hin
      have HGK := Lib.hid hgk
      have HFIT := Lib.hid hfit
      clear hgk hfit
      have hszw := hgr.size
      have hblt := hlb'.lt
      by_cases hlt : (j : Int) < n
      · have hq' : Quest (wr.alloc (.cells #[.func (.func 30) #[] #[.pointer (some ⟨bq, 0, none⟩)]] 48)) base (.func (.func 30) #[] #[.pointer (some ⟨bq, 0, none⟩)]) p := hq.keep (fun a h1 h2 => (World.cell?_alloc_lt _ _ _ (by omega)).trans (World.cell?_of_block (hgr.block _ h2 (by simp; omega)))) (by simp; omega)
        have hnx := next_any t d bl B base A' c' (K.drop j) wr.heap.size 1 [.func (.func 30) #[] #[.pointer (some ⟨bq, 0, none⟩)]] [p] (wr.alloc (.cells #[.func (.func 30) #[] #[.pointer (some ⟨bq, 0, none⟩)]] 48)) (hlb'.keep (heap_alloc_old _ _ hblt)) (hin'.alloc (by omega) _) hbl hBb (by simp; omega) (fun i x hx => by
          obtain rfl : i = 0 := by have := (List.getElem?_eq_some_iff.1 hx).1; simp at this; exact this
          rw [World.cell?_alloc_new]
          simpa using hx) (by omega) (by simp) rfl (by simp) (by simp) (fun i x y hx hy => by
          obtain rfl : i = 0 := by have := (List.getElem?_eq_some_iff.1 hx).1; simp at this; exact this
          obtain rfl : Value.func (.func 30) #[] #[.pointer (some ⟨bq, 0, none⟩)] = x := by simpa using hx
          obtain rfl : p = y := by simpa using hy
          exact hq')
        have HNX := Lib.hid hnx
        have HG := Lib.hid hgr
        have HIN := Lib.hid hin'
        have HLB := Lib.hid hlb'
        clear hnx hgr hin' hlb' hq' hq
        go_wp2_with fail
        refine HNX.out.mono ?_
        rintro e w2 (⟨hok, rfl, hg2, A2, c2, hl2, hi2⟩ | ⟨hok, rfl, hg2⟩)
        · have hok' : fitsQ (List.replicate n.toNat p) K = fitsQ (List.replicate (n.toNat - (j + 1)) p) (K.drop (j + 1)) := by
            rw [HFIT.out]
            have e : n.toNat - j = (n.toNat - (j + 1)) + 1 := by omega
            rw [e, List.replicate_succ]
            cases hK : K.drop j with
            | nil => rw [hK] at hok; cases hok
            | cons u r =>
              have : K.drop (j + 1) = r := by rw [← List.tail_drop, hK]; rfl
              rw [this]
              rw [hK] at hok
              simp only [fitsQ, Bool.and_true] at hok ⊢
              rw [hok]; simp
          have HOK := Lib.hid hok'
          clear hok hok'
          have hgw : w.grownBy w2 (some bl) := ⟨hg2.os.trans HG.out.os, hg2.tape.trans HG.out.tape, hg2.output.trans HG.out.output, Nat.le_trans HG.out.size (Nat.le_trans (by simp) hg2.size), fun k hk hne => ((hg2.block k (by simp; omega) hne).trans (heap_alloc_old _ _ (by omega))).trans (HG.out.block k hk hne)⟩
          have hdr : (K.drop j).drop 1 = K.drop (j + 1) := by rw [List.drop_drop]
          have hl3 : LookBox w2 bl t d A2 (K.drop (j + 1)).length c2 := by rw [← hdr]; exact hl2
          have hi3 : InL w2 B A2 c2 (K.drop (j + 1)) := by rw [← hdr]; exact hi2
          clear hg2 hl2 hi2 hdr
          have HGW := Lib.hid hgw
          have HL3 := Lib.hid hl3
          have HI3 := Lib.hid hi3
          clear hgw hl3 hi3
          go_wp2_with fail
          go_roundg (n.toNat - (j + 1))
          case rel => exact ⟨j + 1, A2, c2, by omega, rfl, by go_num, HL3.out, HI3.out, HGW.out, HOK.out⟩
          case measure => rw [HGK.out]; omega
        · have hgw : w.grownBy w2 (some bl) := ⟨hg2.os.trans HG.out.os, hg2.tape.trans HG.out.tape, hg2.output.trans HG.out.output, Nat.le_trans HG.out.size (Nat.le_trans (by simp) hg2.size), fun k hk hne => ((hg2.block k (by simp; omega) hne).trans (heap_alloc_old _ _ (by omega))).trans (HG.out.block k hk hne)⟩
          have hff : fitsQ (List.replicate n.toNat p) K = false := by
            rw [HFIT.out]
            have e : n.toNat - j = (n.toNat - (j + 1)) + 1 := by omega
            rw [e, List.replicate_succ]
            cases hK : K.drop j with
            | nil => rfl
            | cons u r =>
              rw [hK] at hok
              simp only [fitsQ, Bool.and_true] at hok ⊢
              rw [hok]; rfl
          have HFF := Lib.hid hff
          clear hff hok hg2
          have HGW := Lib.hid hgw
          clear hgw
          go_wp2_with fail
          refine ⟨rfl, ?_⟩
          exact .inr ⟨HFF.out, rfl, HGW.out⟩
      · have hjn : j = n.toNat := by omega
        have hff : Hid (fitsQ (List.replicate n.toNat p) K = true) := by show _ = _; rw [HFIT.out, hjn]; simp [fitsQ]
        rw [hjn] at hlb' hin'
        have HLB := Lib.hid hlb'
        have HIN := Lib.hid hin'
        have HG := Lib.hid hgr
        clear hlb' hin' hgr hjn hq
        go_wp2_with fail
        go_end0
        exact .inl ⟨hff.out, rfl, HG.out, _, _, HLB.out, HIN.out⟩
  · go_enter Tryd.func51, Tryd.ntmps51
    go_wp2_with fail
    go_loopg [7] n.toNat (fun gg i wr => ∃ (j : Nat) (A' : Option Addr) (c' : Nat), j ≤ n.toNat ∧ gg = n.toNat - j ∧ i = .int .i64 j ∧ LookBox wr bl t d A' (K.drop j).length c' ∧ InL wr B A' c' (K.drop j) ∧ w.grownBy wr (some bl) ∧ fitsQ (List.replicate n.toNat p) K = fitsQ (List.replicate (n.toNat - j) p) (K.drop j))
    case atStart => exact ⟨0, A, c, by omega, rfl, rfl, hlb, hin, ⟨rfl, rfl, rfl, Nat.le_refl _, fun _ _ _ => rfl⟩, rfl⟩
    case round =>
      obtain ⟨j, A', c', hj, hgk, rfl, hlb', hin', hgr, hfit⟩ := hrel
      clear hlb hin
      have HGK := Lib.hid hgk
      have HFIT := Lib.hid hfit
      clear hgk hfit
      have hszw := hgr.size
      have hblt := hlb'.lt
      by_cases hlt : (j : Int) < n
      · have hq' : Quest (wr.alloc (.cells #[.func (.func 53) #[] #[]] 48)) base (.func (.func 53) #[] #[]) p := hq.keep (fun a h1 h2 => (World.cell?_alloc_lt _ _ _ (by omega)).trans (World.cell?_of_block (hgr.block _ h2 (by simp; omega)))) (by simp; omega)
        have hnx := next_any t d bl B base A' c' (K.drop j) wr.heap.size 1 [.func (.func 53) #[] #[]] [p] (wr.alloc (.cells #[.func (.func 53) #[] #[]] 48)) (hlb'.keep (heap_alloc_old _ _ hblt)) (hin'.alloc (by omega) _) hbl hBb (by simp; omega) (fun i x hx => by
          obtain rfl : i = 0 := by have := (List.getElem?_eq_some_iff.1 hx).1; simp at this; exact this
          rw [World.cell?_alloc_new]
          simpa using hx) (by omega) (by simp) rfl (by simp) (by simp) (fun i x y hx hy => by
          obtain rfl : i = 0 := by have := (List.getElem?_eq_some_iff.1 hx).1; simp at this; exact this
          obtain rfl : Value.func (.func 53) #[] #[] = x := by simpa using hx
          obtain rfl : p = y := by simpa using hy
          exact hq')
        have HNX := Lib.hid hnx
        have HG := Lib.hid hgr
        have HIN := Lib.hid hin'
        have HLB := Lib.hid hlb'
        clear hnx hgr hin' hlb' hq' hq
        go_wp2_with fail
        refine HNX.out.mono ?_
        rintro e w2 (⟨hok, rfl, hg2, A2, c2, hl2, hi2⟩ | ⟨hok, rfl, hg2⟩)
        · have hok' : fitsQ (List.replicate n.toNat p) K = fitsQ (List.replicate (n.toNat - (j + 1)) p) (K.drop (j + 1)) := by
            rw [HFIT.out]
            have e : n.toNat - j = (n.toNat - (j + 1)) + 1 := by omega
            rw [e, List.replicate_succ]
            cases hK : K.drop j with
            | nil => rw [hK] at hok; cases hok
            | cons u r =>
              have : K.drop (j + 1) = r := by rw [← List.tail_drop, hK]; rfl
              rw [this]
              rw [hK] at hok
              simp only [fitsQ, Bool.and_true] at hok ⊢
              rw [hok]; simp
          have HOK := Lib.hid hok'
          clear hok hok'
          have hgw : w.grownBy w2 (some bl) := ⟨hg2.os.trans HG.out.os, hg2.tape.trans HG.out.tape, hg2.output.trans HG.out.output, Nat.le_trans HG.out.size (Nat.le_trans (by simp) hg2.size), fun k hk hne => ((hg2.block k (by simp; omega) hne).trans (heap_alloc_old _ _ (by omega))).trans (HG.out.block k hk hne)⟩
          have hdr : (K.drop j).drop 1 = K.drop (j + 1) := by rw [List.drop_drop]
          have hl3 : LookBox w2 bl t d A2 (K.drop (j + 1)).length c2 := by rw [← hdr]; exact hl2
          have hi3 : InL w2 B A2 c2 (K.drop (j + 1)) := by rw [← hdr]; exact hi2
          clear hg2 hl2 hi2 hdr
          have HGW := Lib.hid hgw
          have HL3 := Lib.hid hl3
          have HI3 := Lib.hid hi3
          clear hgw hl3 hi3
          go_wp2_with fail
          go_roundg (n.toNat - (j + 1))
          case rel => exact ⟨j + 1, A2, c2, by omega, rfl, by go_num, HL3.out, HI3.out, HGW.out, HOK.out⟩
          case measure => rw [HGK.out]; omega
        · have hgw : w.grownBy w2 (some bl) := ⟨hg2.os.trans HG.out.os, hg2.tape.trans HG.out.tape, hg2.output.trans HG.out.output, Nat.le_trans HG.out.size (Nat.le_trans (by simp) hg2.size), fun k hk hne => ((hg2.block k (by simp; omega) hne).trans (heap_alloc_old _ _ (by omega))).trans (HG.out.block k hk hne)⟩
          have hff : fitsQ (List.replicate n.toNat p) K = false := by
            rw [HFIT.out]
            have e : n.toNat - j = (n.toNat - (j + 1)) + 1 := by omega
            rw [e, List.replicate_succ]
            cases hK : K.drop j with
            | nil => rfl
            | cons u r =>
              rw [hK] at hok
              simp only [fitsQ, Bool.and_true] at hok ⊢
              rw [hok]; rfl
          have HFF := Lib.hid hff
          clear hff hok hg2
          have HGW := Lib.hid hgw
          clear hgw
          go_wp2_with fail
          refine ⟨rfl, ?_⟩
          exact .inr ⟨HFF.out, rfl, HGW.out⟩
      · have hjn : j = n.toNat := by omega
        have hff : Hid (fitsQ (List.replicate n.toNat p) K = true) := by show _ = _; rw [HFIT.out, hjn]; simp [fitsQ]
        rw [hjn] at hlb' hin'
        have HLB := Lib.hid hlb'
        have HIN := Lib.hid hin'
        have HG := Lib.hid hgr
        clear hlb' hin' hgr hjn hq
        go_wp2_with fail
        go_end0
        exact .inl ⟨hff.out, rfl, HG.out, _, _, HLB.out, HIN.out⟩
end Go.Proofs.YtldedhfbpongmaaDoor
