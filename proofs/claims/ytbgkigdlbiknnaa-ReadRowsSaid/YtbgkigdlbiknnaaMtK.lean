/- ReadRows: the rules of two texts, one behind the other. -/
import Derived.Test.YtbgkigdlbiknnaaMtI
import Derived.Deep.RegionLaw
import Derived.Laws.OwnMore
set_option maxRecDepth 100000
set_option linter.unusedSimpArgs false
namespace LexT
open Go Go.RowKit Go.Instr
set_option linter.unusedVariables false
/-- A row appended to another, one of none, too. -/
theorem run_append_s {P : Program} (w : World) (t ty e : TypeId) (i : TypeInfo) (z : Value) (size bytes : Nat) (ht : P.underlying t = some (.slice e)) (hi : P.info? e = some i) (hz : i.zero = some z)
    (hsize : i.size = size) (hby : i.bytes = bytes) (hzs : z.cells.size = size) (hsz : 0 < size)
    (v : Value) (n : Nat) (xs : List Value) (hown : w.ownsRow 0 e size v n xs) (sv : Value) (m : Nat) (news : List Value) (hs : w.ownsRow 0 e size sv m news) (h1 : ∀ u ∈ news, u.oneCell' = true)
    (h63 : n + m ≤ maxLen) (hbytes : (n + m) * bytes ≤ 140737488355328) :
    ∃ v' w', (Builtin.append_ #[t, t] ty #[v, sv]).run P w = .ok v' w' ∧ w'.ownsRow 0 e size v' (n + m) (xs ++ news) ∧ w.grownBy w' v.ownBlock ∧ (∀ k, v'.ownBlock = some k → v.ownBlock = some k ∨ w.heap.size ≤ k) := by
  rcases hs.2 with ⟨hv, h0⟩ | ⟨g, cap, cur, hv, hb, hg, hrest⟩
  · subst hv h0
    have hx : news = [] := by have := hs.1; simpa using this
    subst hx
    refine ⟨v, w, run_append_owned_none (P := P) (w := w) 0 t ty e i size ht hi v n xs hown, by simpa using hown, ⟨rfl, rfl, rfl, Nat.le_refl _, fun _ _ _ => rfl⟩, fun k hk => .inl hk⟩
  · subst hv
    exact run_append_r (P := P) w t ty e i z size bytes ht hi hz hsize hby hzs hsz v n xs hown ⟨g, 0, none⟩ m cap news hs.1 (hs.cells (g := g) rfl) h1 h63 hbytes
theorem step_append_s {P : Program} {ops : Array Oper} {o : Oper} {a : Act} {w : World} {K : Act → World → Prop} {Q : Exit → Act → World → Prop} {E : Prop}
    (hg : o.guard = none) (s x : Operand) (t : TypeId) (hop : o.op = Op.call { callee := Callee.builtin Builtin.append, args := #[s, x], argTypes := #[t, t] })
    (e : TypeId) (i : TypeInfo) (z : Value) (size bytes : Nat) (ht : P.underlying t = some (.slice e)) (hi : P.info? e = some i) (hz : i.zero = some z)
    (hsize : i.size = size) (hby : i.bytes = bytes) (hzs : z.cells.size = size) (hsz : 0 < size)
    (v : Value) (n : Nat) (xs : List Value) (hs : a.eval s = v) (hown : w.ownsRow 0 e size v n xs)
    (sv : Value) (m : Nat) (hx : a.eval x = sv) (news : List Value) (hso : w.ownsRow 0 e size sv m news) (h1 : ∀ u ∈ news, u.oneCell' = true)
    (h63 : n + m ≤ maxLen) (hbytes : (n + m) * bytes ≤ 140737488355328)
    (hK : ∀ v' w', w'.ownsRow 0 e size v' (n + m) (xs ++ news) → w.grownBy w' v.ownBlock → (∀ k, v'.ownBlock = some k → v.ownBlock = some k ∨ w.heap.size ≤ k) → K (a.put o.dst v') w') :
    if Region.wanted o (yielded ops a.tmps) = true then Oper.wp P o a w K Q else E := by
  have hw : Region.wanted o (yielded ops a.tmps) = true := by simp [Region.wanted, hg]
  rw [if_pos hw]
  obtain ⟨v', w', hrun, h2, h3, h4⟩ := run_append_s (P := P) w t o.type e i z size bytes ht hi hz hsize hby hzs hsz v n xs hown sv m news hso h1 h63 hbytes
  unfold Oper.wp
  simp [execOp, hop, resolve, invoke, builtin, hs, hx, hrun, Result.andThen]
  exact hK _ _ h2 h3 h4
/-- A row of tokens lies there. -/
structure TokAt (w : World) (ao : Option Addr) (c : Nat) (ts : List Tok) : Prop where
  at_ : ∀ (i : Nat) (t : Tok), ts[i]? = some t → ∃ g, ao = some ⟨g, 0, none⟩ ∧ ts.length ≤ c ∧ g < w.heap.size ∧ w.cell? ⟨g, i * 3, none⟩ = some (.int .u8 (t.kind : Int)) ∧ w.cell? ⟨g, i * 3 + 1, none⟩ = some (.string (mkS t.text)) ∧ w.cell? ⟨g, i * 3 + 2, none⟩ = some (.int .i64 (t.place : Int))
theorem tok_of_own {w : World} {base : Nat} {e : TypeId} {v : Value} {ts : List Tok} (h : w.ownsRow base e 3 v ts.length (tcells ts)) : ∃ ao c, v = .slice ao ts.length c ∧ TokAt w ao c ts := by
  rcases h.2 with ⟨hv, h0⟩ | ⟨g, cap, cur, hv, hb, hg, hnc, hcm, _⟩
  · have : ts = [] := List.eq_nil_of_length_eq_zero h0
    subst this
    exact ⟨none, 0, hv, ⟨fun i t hi => by simp at hi⟩⟩
  · refine ⟨_, cap, hv, ⟨fun i t hi => ⟨g, rfl, hnc, (Array.getElem?_eq_some_iff.1 hg).1, ?_⟩⟩⟩
    have hadd : ∀ j, (⟨g, 0, none⟩ : Addr).add j = ⟨g, j, none⟩ := fun j => by unfold Addr.add; split <;> simp_all
    have key : ∀ (j : Nat) (u : Value), (tcs t)[j]? = some u → w.cell? ⟨g, i * 3 + j, none⟩ = some u := by
      intro j u hj
      subst hv
      have := h.cells (g := g) rfl (i * 3 + j) u (tcells_at ts i j t u hi hj)
      rwa [hadd] at this
    exact ⟨by simpa using key 0 _ rfl, key 1 _ rfl, key 2 _ rfl⟩
end LexT
namespace Go.Proofs.Ytbgkigdlbiknnaa
open Go.Instr Go.RowKit LexT
set_option linter.unusedVariables false
theorem fld_text (w : World) (a b : Option Addr) (n c m d : Nat) : (field 26 (.agg #[.slice a n c, .slice b m d]) 1).run Try.prog w = .ok (.slice b m d) w := by
  first
    | rfl
    | kernel_rfl
    | (simp [field, go_sem]; done)
theorem rows_one {w : World} : ∀ (cs : List Cell) (S : List Nat) (xs : List Value), AtL w cs S xs → (∀ c ∈ cs, ∀ u, c = .p u → u.oneCell' = true) → ∀ u ∈ xs, u.oneCell' = true
  | [], S, xs, h, hc, u, hu => by rw [h.unnil] at hu; cases hu
  | c :: cs, S, xs, h, hc, u, hu => by
    obtain ⟨S1, S2, x, xs', rfl, rfl, h1, h2⟩ := AtL.uncons h
    rcases List.mem_cons.1 hu with rfl | hu
    · exact At.one h1 (hc c (by simp))
    · exact rows_one cs S2 xs' h2 (fun c hc2 => hc c (by simp [hc2])) u hu
theorem rule_ones {rs : List Ru} : ∀ c ∈ rs.flatMap ruleC, ∀ u, c = .p u → u.oneCell' = true := by
  intro c hc u hu
  obtain ⟨r, _, hr⟩ := List.mem_flatMap.1 hc
  subst hu
  unfold ruleC strC at hr
  simp at hr
  rcases hr with hr | hr <;> (subst hr; rfl)
theorem row_parts {w : World} {bo : Option Addr} {m d : Nat} {S : List Nat} {cs : List Cell} (h : At w (.row 38 4 cs) S (.slice bo m d)) : ∃ xo So, w.ownsRow 0 38 4 (.slice bo m d) m xo ∧ AtL w cs So xo ∧ cs.length = m * 4 := by
  have hc := h.count
  unfold At at h
  obtain ⟨n, xs, S', h1, h2, rfl, h4⟩ := h
  have : n = m := by omega
  subst this
  exact ⟨xs, S', h2, h4, h1⟩
theorem lit0 {w : World} {g : Nat} (h : w.heap[g]? = some (.cells #[] 38 (0, 0))) : w.ownsRow 0 38 4 (.slice (some ⟨g, 0, none⟩) 0 0) 0 [] :=
  ⟨rfl, .inr ⟨g, 0, #[], rfl, Nat.zero_le _, h, Nat.le_refl _, Nat.zero_le _, rfl, rfl⟩⟩
theorem both_fin {W8 wz : World} {g : Nat} {u0 u1 : Value} {SB : List Nat} {cs : List Cell} (hy : wz.heap[g]? = some (.cells #[.slice none 0 0, .slice none 0 0] 26 (0, 0))) (hat : AtL wz cs SB [u0, u1]) (hne : ∀ s ∈ SB, s ≠ g) (hb : Below W8.heap.size W8 wz) (hg : W8.heap.size ≤ g) :
    ∃ (b15 : Nat) (v0 v1 : Value) (S : List Nat), Value.pointer (some ⟨g, 0, none⟩) = .pointer (some ⟨b15, 0, none⟩) ∧ (two wz g u0 u1).heap[b15]? = some (.cells #[v0, v1] 26 (0, 0)) ∧ AtL (two wz g u0 u1) cs S [v0, v1] ∧ Below W8.heap.size W8 (two wz g u0 u1) := by
  refine ⟨g, u0, u1, SB, rfl, ?_, hat.same _ _ _ (fun s hs => two_same _ _ _ _ _ (hne s hs)), hb.trans (two_low _ _ _ _ _ hg)⟩
  unfold two
  rw [heap_setCell_same _ _ 1 _ _ _ (heap_setCell_same _ _ 0 _ _ _ hy)]; rfl
theorem both_new {W8 wC : World} {u0 u1 : Value} {SB : List Nat} {cs : List Cell} (hat : AtL wC cs SB [u0, u1]) (hb : Below W8.heap.size W8 wC) :
    ∃ (b15 : Nat) (v0 v1 : Value) (S : List Nat), Value.pointer (some ⟨wC.heap.size, 0, none⟩) = .pointer (some ⟨b15, 0, none⟩) ∧ (wC.alloc (.cells #[u0, u1] 26)).heap[b15]? = some (.cells #[v0, v1] 26 (0, 0)) ∧ AtL (wC.alloc (.cells #[u0, u1] 26)) cs S [v0, v1] ∧ Below W8.heap.size W8 (wC.alloc (.cells #[u0, u1] 26)) :=
  ⟨wC.heap.size, u0, u1, SB, rfl, heap_alloc_new wC _, hat.same _ _ _ (fun s hs => Below.heap_alloc _ _ _ (AtL.lt _ _ _ hat s hs)), hb.alloc hb.size _⟩
theorem pre_cat (a : ByteArray) : ByteArray.mk #[37, 37, 32] ++ a = mkS (37 :: 37 :: 32 :: a.data.toList) := by
  rw [show ByteArray.mk #[37, 37, 32] = mkS [37, 37, 32] from rfl]
  conv => lhs; rw [show a = mkS a.data.toList from (mkS_of a).symm, mkS_app]
  rfl
theorem row_text (a : ByteArray) (hm : a.size ≤ 10000) (ww : World) : Calls Try.prog 6 #[.string (ByteArray.mk #[37, 37, 32] ++ a)] ww (ToldT (textT (37 :: 37 :: 32 :: a.data.toList)) ww) := by
  rw [pre_cat]
  have := Text_any (mkS (37 :: 37 :: 32 :: a.data.toList)) ww (by rw [mkS_size]; simp [maxLen]; omega)
  rw [mkS_list] at this
  exact this
set_option maxHeartbeats 16000000 in
theorem ReadRows_any (a b : ByteArray) (w : World) (hm : a.size ≤ maxLen) (hm2 : b.size ≤ maxLen) : Calls Try.prog 4 #[.string a, .string b] w fun e w' => e = .returned (.bool true) ∧ Below w.heap.size w w' := by
  have hla : a.data.toList.length = a.size := by simp
  have hlb : b.data.toList.length = b.size := by simp
  by_cases h1 : a.size ≤ 10000
  case neg =>
    have g1 : decide ((10000 : Int) < (a.size : Int)) = true := by simp; omega
    clear hm hm2 hla hlb
    go_enter Try.func4, Try.ntmps4
    go_wp2_with fail
    refine (awake_any w).mono ?_
    rintro e w1 ⟨rfl, hb1⟩
    have HB1 := Lib.hid hb1
    clear hb1
    go_wp2_with fail
    go_ret
    exact ⟨rfl, HB1.out⟩
  have g1 : decide ((10000 : Int) < (a.size : Int)) = false := by simp; omega
  by_cases h2 : b.size ≤ 10000
  case neg =>
    have g2 : decide ((10000 : Int) < (b.size : Int)) = true := by simp; omega
    clear hm hm2 hla hlb
    go_enter Try.func4, Try.ntmps4
    go_wp2_with fail
    refine (awake_any w).mono ?_
    rintro e w1 ⟨rfl, hb1⟩
    have HB1 := Lib.hid hb1
    clear hb1
    go_wp2_with fail
    go_ret
    exact ⟨rfl, HB1.out⟩
  have g2 : decide ((10000 : Int) < (b.size : Int)) = false := by simp; omega
  have HTA := Lib.hid (row_text a h1)
  have HTB := Lib.hid (row_text b h2)
  cases htx : textT (37 :: 37 :: 32 :: a.data.toList) with
  | error x =>
    obtain ⟨c, q⟩ := x
    rw [htx] at HTA
    have hc0 := (fault_in htx).1
    have n0 : ((c : Int) != 0) = true := by simp; omega
    clear hm hm2 hla hlb htx
    go_enter Try.func4, Try.ntmps4
    go_wp2_with fail
    refine (awake_any w).mono ?_
    rintro e w1 ⟨rfl, hb1⟩
    have HB1 := Lib.hid hb1
    clear hb1
    go_wp2_with fail
    refine (HTA.out w1).mono ?_
    rintro e w2 (⟨x, S, xs, hR, _⟩ | ⟨c', q', hR, rfl, hb2⟩)
    · cases hR
    · injection hR with hR
      injection hR with hR1 hR2
      subst hR1 hR2
      have HB2 : Hid (Below w.heap.size w ((w2.alloc (.cells #[.slice none 0 0, .slice none 0 0] 26)).alloc (.cells #[.int .i64 (c : Int), .int .i64 (q : Int)] 29))) := ((HB1.out.trans (hb2.mono HB1.out.size)).alloc (HB1.out.trans (hb2.mono HB1.out.size)).size _).alloc (by have := (HB1.out.trans (hb2.mono HB1.out.size)).size; simp; omega) _
      obtain ⟨W2, hW2⟩ : ∃ V, V = (w2.alloc (.cells #[.slice none 0 0, .slice none 0 0] 26)).alloc (.cells #[.int .i64 (c : Int), .int .i64 (q : Int)] 29) := ⟨_, rfl⟩
      have e1 : W2.heap[w2.heap.size + 1]? = some (.cells #[.int .i64 (c : Int), .int .i64 (q : Int)] 29 (0, 0)) := by
        have := (alloc2 w2 (.cells #[.slice none 0 0, .slice none 0 0] 26) (.cells #[.int .i64 (c : Int), .int .i64 (q : Int)] 29)).1.2
        rw [hW2]; exact this
      rw [← hW2] at HB2
      have HW2 := Lib.hid hW2
      clear hb2 HB1 hW2
      go_upto_region 6 with fail
      rw [← HW2.out]
      go_wp2_with fail
      refine (HTB.out W2).mono ?_
      have key : ∀ w3, Below W2.heap.size W2 w3 → w3.cell? ⟨w2.heap.size + 1, 0, none⟩ = some (.int .i64 (c : Int)) ∧ w2.heap.size + 1 < w3.heap.size ∧ Below w.heap.size w w3 := by
        intro w3 hb
        have hlt := (Array.getElem?_eq_some_iff.1 e1).1
        refine ⟨?_, by have := hb.size; omega, HB2.out.trans (hb.mono HB2.out.size)⟩
        exact (hb.cell (p := ⟨w2.heap.size + 1, 0, none⟩) hlt).trans (by rw [cell_of_row W2 _ 0 _ _ _ e1]; rfl)
      have HKEY := Lib.hid key
      clear key e1
      rintro e w3 (⟨x, S, xs, hR, rfl, hat, hnd, hge, hb3⟩ | ⟨c', q', hR, rfl, hb3⟩)
      · obtain ⟨a1, n1, m1, a2, n2, m2, rfl⟩ := AtL.two hat
        clear hat hnd hge
        obtain ⟨W4, hW4⟩ : ∃ V, V = (w3.alloc (.cells #[.slice a1 n1 m1, .slice a2 n2 m2] 26)).alloc (.cells #[.int .i64 0, .int .i64 0] 29) := ⟨_, rfl⟩
        have hb4 : Below W2.heap.size W2 W4 := by rw [hW4]; exact (hb3.alloc hb3.size _).alloc (by have := hb3.size; simp; omega) _
        obtain ⟨k0, klt, kb⟩ := HKEY.out W4 hb4
        have HKB := Lib.hid kb
        have HW4 := Lib.hid hW4
        clear hb3 kb hb4 hW4
        go_upto_region 7 with fail
        rw [← HW4.out]
        go_wp2_with fail
        go_ret
        exact ⟨rfl, HKB.out⟩
      · obtain ⟨W4, hW4⟩ : ∃ V, V = (w3.alloc (.cells #[.slice none 0 0, .slice none 0 0] 26)).alloc (.cells #[.int .i64 (c' : Int), .int .i64 (q' : Int)] 29) := ⟨_, rfl⟩
        have hb4 : Below W2.heap.size W2 W4 := by rw [hW4]; exact (hb3.alloc hb3.size _).alloc (by have := hb3.size; simp; omega) _
        obtain ⟨k0, klt, kb⟩ := HKEY.out W4 hb4
        have HKB := Lib.hid kb
        have HW4 := Lib.hid hW4
        clear hb3 kb hb4 hW4
        go_upto_region 7 with fail
        rw [← HW4.out]
        go_wp2_with fail
        go_ret
        exact ⟨rfl, HKB.out⟩
  | ok x =>
    rw [htx] at HTA
    cases hty : textT (37 :: 37 :: 32 :: b.data.toList) with
    | error y =>
      obtain ⟨c, q⟩ := y
      rw [hty] at HTB
      have hc0 := (fault_in hty).1
      have n0 : ((c : Int) != 0) = true := by simp; omega
      clear hm hm2 hla hlb htx hty
      go_enter Try.func4, Try.ntmps4
      go_wp2_with fail
      refine (awake_any w).mono ?_
      rintro e w1 ⟨rfl, hb1⟩
      have HB1 := Lib.hid hb1
      clear hb1
      go_wp2_with fail
      refine (HTA.out w1).mono ?_
      rintro e w2 (⟨x', S, xs, hR, rfl, hat, hnd, hge, hb2⟩ | ⟨c', q', hR, rfl, hb2⟩)
      case inr => cases hR
      obtain ⟨a1, n1, m1, a2, n2, m2, rfl⟩ := AtL.two hat
      clear hat hnd hge
      obtain ⟨W2, hW2⟩ : ∃ V, V = (w2.alloc (.cells #[.slice a1 n1 m1, .slice a2 n2 m2] 26)).alloc (.cells #[.int .i64 0, .int .i64 0] 29) := ⟨_, rfl⟩
      have e1 : W2.heap[w2.heap.size + 1]? = some (.cells #[.int .i64 0, .int .i64 0] 29 (0, 0)) := by
        have := (alloc2 w2 (.cells #[.slice a1 n1 m1, .slice a2 n2 m2] 26) (.cells #[.int .i64 0, .int .i64 0] 29)).1.2
        rw [hW2]; exact this
      have HB2 : Hid (Below w.heap.size w W2) := by
        have h9 := HB1.out.trans (hb2.mono HB1.out.size)
        rw [hW2]; exact (h9.alloc h9.size _).alloc (by have := h9.size; simp; omega) _
      have HW2 := Lib.hid hW2
      have HE1 := Lib.hid e1
      clear hb2 HB1 hW2 e1
      go_upto_region 6 with fail
      rw [← HW2.out]
      go_wp2_with fail
      refine (HTB.out W2).mono ?_
      rintro e w3 (⟨x, S, xs, hR, _⟩ | ⟨c', q', hR, rfl, hb3⟩)
      · cases hR
      · injection hR with hR
        injection hR with hR1 hR2
        subst hR1 hR2
        obtain ⟨W4, hW4⟩ : ∃ V, V = (w3.alloc (.cells #[.slice none 0 0, .slice none 0 0] 26)).alloc (.cells #[.int .i64 (c : Int), .int .i64 (q : Int)] 29) := ⟨_, rfl⟩
        have hb4 : Below W2.heap.size W2 W4 := by rw [hW4]; exact (hb3.alloc hb3.size _).alloc (by have := hb3.size; simp; omega) _
        have e2 : W4.heap[w3.heap.size + 1]? = some (.cells #[.int .i64 (c : Int), .int .i64 (q : Int)] 29 (0, 0)) := by
          have := (alloc2 w3 (.cells #[.slice none 0 0, .slice none 0 0] 26) (.cells #[.int .i64 (c : Int), .int .i64 (q : Int)] 29)).1.2
          rw [hW4]; exact this
        obtain ⟨⟨l0, l1⟩, _⟩ := two_facts e2
        obtain ⟨⟨k0, k1⟩, _⟩ := two_facts ((hb4.block _ (Array.getElem?_eq_some_iff.1 HE1.out).1).trans HE1.out)
        have HKB : Hid (Below w.heap.size w W4) := HB2.out.trans (hb4.mono HB2.out.size)
        have HW4 := Lib.hid hW4
        clear hb3 hb4 hW4 e2
        go_upto_region 7 with fail
        rw [← HW4.out]
        go_wp2_with fail
        go_ret
        exact ⟨rfl, HKB.out⟩
    | ok y =>
      rw [hty] at HTB
      obtain ⟨v, hv, hvd, hvr⟩ := both htx hty (by rw [hla]; exact h1) (by rw [hlb]; exact h2)
      obtain ⟨ts, hts, hcount⟩ := ends_count htx (by rw [hla]; exact h1)
      have hcat : ((ByteArray.mk #[37, 108, 101, 102, 116, 32, 80, 59, 32, 37, 37, 32] ++ a) ++ ByteArray.mk #[10]) ++ b = mkS (preR ++ a.data.toList ++ 10 :: b.data.toList) := by
        rw [show ByteArray.mk #[37, 108, 101, 102, 116, 32, 80, 59, 32, 37, 37, 32] = mkS preR from rfl, show ByteArray.mk #[10] = mkS [10] from rfl]
        conv => lhs; rw [show a = mkS a.data.toList from (mkS_of a).symm, show b = mkS b.data.toList from (mkS_of b).symm, mkS_app, mkS_app, mkS_app]
        exact congrArg mkS (by simp)
      have HTV : Hid (∀ ww, Calls Try.prog 6 #[.string (((ByteArray.mk #[37, 108, 101, 102, 116, 32, 80, 59, 32, 37, 37, 32] ++ a) ++ ByteArray.mk #[10]) ++ b)] ww (ToldT (.ok v) ww)) := by
        intro ww
        rw [hcat, ← hv]
        have := Text_any (mkS (preR ++ a.data.toList ++ 10 :: b.data.toList)) ww (by rw [mkS_size]; simp [preR, maxLen]; omega)
        rw [mkS_list] at this
        exact this
      have HTK : Hid (∀ ww, Calls Try.prog 11 #[.string a] ww (Told (.ok ts) ww)) := fun ww => by rw [← hts]; exact Tokens_any a ww hm
      have HSM := Lib.hid (And.intro (told_small htx) (And.intro (told_small hty) (told_small hv)))
      have HV := Lib.hid (And.intro hvd (And.intro hvr hcount))
      have hla' : a.size ≤ 10000 := h1
      clear hm hm2 hla hlb htx hty hv hvd hvr hts hcount hcat
      go_enter Try.func4, Try.ntmps4
      go_wp2_with fail
      refine (awake_any w).mono ?_
      rintro e w1 ⟨rfl, hb1⟩
      have HB1 := Lib.hid hb1
      clear hb1
      go_wp2_with fail
      refine (HTA.out w1).mono ?_
      rintro e w2 (⟨x', S, xs, hR, rfl, hat, hnd, hge, hb2⟩ | ⟨c', q', hR, rfl, hb2⟩)
      case inr => cases hR
      injection hR with hR
      subst hR
      obtain ⟨Sd1, Sr1, ao1, n1, c1, bo1, m1, d1, rfl, rfl, hd1, hr1⟩ := text_open hat
      obtain ⟨W2, hW2⟩ : ∃ V, V = (w2.alloc (.cells #[.slice ao1 n1 c1, .slice bo1 m1 d1] 26)).alloc (.cells #[.int .i64 0, .int .i64 0] 29) := ⟨_, rfl⟩
      obtain ⟨⟨ea0, ea1⟩, hba, hsa⟩ := alloc2 w2 (.cells #[.slice ao1 n1 c1, .slice bo1 m1 d1] 26) (.cells #[.int .i64 0, .int .i64 0] 29)
      rw [← hW2] at ea0 ea1 hba hsa
      rw [List.nodup_append] at hnd
      have H1 : Hid (Below w.heap.size w W2 ∧ W2.heap.size = w2.heap.size + 2 ∧ W2.heap[w2.heap.size]? = some (.cells #[.slice ao1 n1 c1, .slice bo1 m1 d1] 26 (0, 0)) ∧ W2.heap[w2.heap.size + 1]? = some (.cells #[.int .i64 0, .int .i64 0] 29 (0, 0)) ∧ At W2 (.row 38 4 (x.rules.flatMap ruleC)) Sr1 (.slice bo1 m1 d1) ∧ Sr1.Nodup) := by
        have h9 := HB1.out.trans (hb2.mono HB1.out.size)
        exact ⟨h9.trans (hba.mono h9.size), hsa, ea0, ea1, hr1.same _ _ _ (fun s hs => hba.block s (At.lt _ _ _ hr1 s hs)), hnd.2.1⟩
      have HW2 := Lib.hid hW2
      clear hat hnd hge hb2 hd1 hr1 hW2 ea0 ea1 hba hsa HB1
      go_upto_region 6 with fail
      rw [← HW2.out]
      go_wp2_with fail
      refine (HTB.out W2).mono ?_
      rintro e w3 (⟨x', S, xs, hR, rfl, hat, hnd, hge, hb3⟩ | ⟨c', q', hR, rfl, hb3⟩)
      case inr => cases hR
      injection hR with hR
      subst hR
      obtain ⟨Sd2, Sr2, ao2, n2, c2, bo2, m2, d2, rfl, rfl, hd2, hr2⟩ := text_open hat
      obtain ⟨W4, hW4⟩ : ∃ V, V = (w3.alloc (.cells #[.slice ao2 n2 c2, .slice bo2 m2 d2] 26)).alloc (.cells #[.int .i64 0, .int .i64 0] 29) := ⟨_, rfl⟩
      obtain ⟨⟨ea0, ea1⟩, hba, hsa⟩ := alloc2 w3 (.cells #[.slice ao2 n2 c2, .slice bo2 m2 d2] 26) (.cells #[.int .i64 0, .int .i64 0] 29)
      rw [← hW4] at ea0 ea1 hba hsa
      rw [List.nodup_append] at hnd
      have h24 : Below W2.heap.size W2 W4 := hb3.trans (hba.mono hb3.size)
      have H2 : Hid (Below W2.heap.size W2 W4 ∧ W4.heap.size = w3.heap.size + 2 ∧ W4.heap[w3.heap.size]? = some (.cells #[.slice ao2 n2 c2, .slice bo2 m2 d2] 26 (0, 0)) ∧ W4.heap[w3.heap.size + 1]? = some (.cells #[.int .i64 0, .int .i64 0] 29 (0, 0)) ∧ At W4 (.row 38 4 (y.rules.flatMap ruleC)) Sr2 (.slice bo2 m2 d2) ∧ Sr2.Nodup ∧ (∀ s ∈ Sr2, W2.heap.size ≤ s)) := by
        exact ⟨h24, hsa, ea0, ea1, hr2.same _ _ _ (fun s hs => hba.block s (At.lt _ _ _ hr2 s hs)), hnd.2.1, fun s hs => hge s (List.mem_append_right _ hs)⟩
      obtain ⟨⟨l0, l1⟩, _⟩ := two_facts ea1
      obtain ⟨⟨k0, k1⟩, _⟩ := two_facts ((h24.block _ (Array.getElem?_eq_some_iff.1 H1.out.2.2.2.1).1).trans H1.out.2.2.2.1)
      have HW4 := Lib.hid hW4
      clear hat hnd hge hb3 hd2 hr2 hW4 ea0 ea1 hba hsa h24
      go_upto_region 7 with fail
      rw [← HW4.out]
      go_wp2_with fail
      clear k0 k1 l0 l1
      refine (HTK.out W4).mono ?_
      rintro e w5 (⟨ts', tv, hR, rfl, hown, hlen, hb5⟩ | ⟨c', q', hR, _⟩)
      case inr => cases hR
      injection hR with hR
      subst hR
      obtain ⟨ta, tc, rfl, htk⟩ := tok_of_own hown
      obtain ⟨W6, hW6⟩ : ∃ V, V = w5.alloc (.cells #[.int .i64 0, .int .i64 0] 29) := ⟨_, rfl⟩
      have HB6 : Hid (Below W4.heap.size W4 W6) := by rw [hW6]; exact hb5.alloc hb5.size _
      have HTA6 : Hid (∀ (i : Nat) (t : Tok), ts[i]? = some t → ∃ g, ta = some ⟨g, 0, none⟩ ∧ ts.length ≤ tc ∧ ∀ ww, Below W6.heap.size W6 ww → ww.cell? ⟨g, i * 3, none⟩ = some (.int .u8 (t.kind : Int)) ∧ ww.cell? ⟨g, i * 3 + 1, none⟩ = some (.string (mkS t.text))) := by
        intro i t hi
        obtain ⟨g, h1, h2, h3, h4, h5, h6⟩ := htk.at_ i t hi
        have hb : Below w5.heap.size w5 W6 := by rw [hW6]; exact (Below.refl _ _).alloc (Nat.le_refl _) _
        exact ⟨g, h1, h2, fun ww hw => ⟨(hw.cell (p := ⟨g, i * 3, none⟩) (by have := hb.size; show g < _; omega)).trans ((hb.cell (p := ⟨g, i * 3, none⟩) h3).trans h4), (hw.cell (p := ⟨g, i * 3 + 1, none⟩) (by have := hb.size; show g < _; omega)).trans ((hb.cell (p := ⟨g, i * 3 + 1, none⟩) h3).trans h5)⟩⟩
      have HLEN := Lib.hid hlen
      have HW6 := Lib.hid hW6
      clear hown hlen hb5 htk hW6
      go_upto_region 10 with fail
      rw [← HW6.out]
      go_wp2_with fail
      go_loopg [11, 12] ts.length (fun gg v11 v12 wr => ∃ i : Nat, i ≤ ts.length ∧ gg = ts.length - i ∧ v12 = .int .i64 i ∧ v11 = .int .i64 (((ts.take i).countP endT : Nat) : Int) ∧ wr = W6)
      case atStart => exact ⟨0, by omega, rfl, rfl, by simp, rfl⟩
      case round =>
        obtain ⟨i, hi, hgi, rfl, rfl, rfl⟩ := hrel
        have HG := Lib.hid hgi
        clear hgi
        have hll : ts.length ≤ 70000 := HLEN.out
        by_cases hlt : i < ts.length
        · obtain ⟨t, ht⟩ := get_some hlt
          obtain ⟨g, rfl, hgc, hcells⟩ := HTA6.out i t ht
          obtain ⟨k0, k1⟩ := hcells wr (Below.refl _ _)
          have hcnt : (ts.take (i + 1)).countP endT = (ts.take i).countP endT + (if endT t = true then 1 else 0) := by
            rw [List.take_add_one, ht, List.countP_append]
            simp [List.countP_cons]
          have hle : (ts.take i).countP endT ≤ 70000 := Nat.le_trans (List.countP_le_length) (by rw [List.length_take]; omega)
          have i1 : (i : Int) < (ts.length : Int) := by omega
          have i0 : (0 : Int) ≤ (i : Int) := by omega
          have HCN := Lib.hid (And.intro hcnt hle)
          clear hcells ht hcnt hle
          obtain ⟨cn, hcn⟩ : ∃ cn, (ts.take i).countP endT = cn := ⟨_, rfl⟩
          rw [hcn] at HCN ⊢
          clear hcn
          cases hk : (t.kind == 6) with
          | false =>
            have e6 : ((t.kind : Int) == 6) = false := by
              have : t.kind ≠ 6 := by simpa using hk
              simp; omega
            have hE : endT t = false := by unfold endT; rw [hk]; rfl
            rw [hE] at HCN
            clear hk hE
            go_wp2_with fail
            go_roundg (ts.length - (i + 1))
            case rel => exact ⟨i + 1, by omega, rfl, by go_num, by rw [HCN.out.1]; simp, rfl⟩
            case measure => rw [HG.out]; omega
          | true =>
            have e6 : ((t.kind : Int) == 6) = true := by
              have : t.kind = 6 := by simpa using hk
              rw [this]; rfl
            cases ht : (t.text == [59]) with
            | false =>
              have hE : endT t = false := by unfold endT; rw [ht]; simp
              rw [hE] at HCN
              have es : ((mkS t.text).toList == [59]) = false := by rw [mkS_toList]; exact ht
              clear hk hE ht
              go_wp2_with fail
              go_roundg (ts.length - (i + 1))
              case rel => exact ⟨i + 1, by omega, rfl, by go_num, by rw [HCN.out.1]; simp, rfl⟩
              case measure => rw [HG.out]; omega
            | true =>
              have hE : endT t = true := by unfold endT; rw [hk, ht]; rfl
              rw [hE] at HCN
              have es : ((mkS t.text).toList == [59]) = true := by rw [mkS_toList]; exact ht
              clear hk hE ht
              have hle := HCN.out.2
              go_wp2_with fail
              go_roundg (ts.length - (i + 1))
              case rel => exact ⟨i + 1, by omega, rfl, by go_num, by rw [HCN.out.1]; simp, rfl⟩
              case measure => rw [HG.out]; omega
        · have i1 : ¬ (i : Int) < (ts.length : Int) := by omega
          have hil : ts.length ≤ i := by omega
          rw [List.take_of_length_le hil, HV.out.2.2]
          clear hil
          obtain ⟨W6, rfl⟩ : ∃ V, V = wr := ⟨_, rfl⟩
          go_wp2_with fail
          refine (HTV.out W6).mono ?_
          rintro e w7 (⟨x', S, xs, hR, rfl, hat, hnd, hge, hb7⟩ | ⟨c', q', hR, rfl, hb7⟩)
          case inr => cases hR
          injection hR with hR
          subst hR
          obtain ⟨Sd3, Sr3, ao3, n3, c3, bo3, m3, d3, rfl, rfl, hd3, hr3⟩ := text_open hat
          obtain ⟨W8, hW8⟩ : ∃ V, V = (w7.alloc (.cells #[.slice ao3 n3 c3, .slice bo3 m3 d3] 26)).alloc (.cells #[.int .i64 0, .int .i64 0] 29) := ⟨_, rfl⟩
          obtain ⟨⟨ea0, ea1⟩, hba, hsa⟩ := alloc2 w7 (.cells #[.slice ao3 n3 c3, .slice bo3 m3 d3] 26) (.cells #[.int .i64 0, .int .i64 0] 29)
          rw [← hW8] at ea0 ea1 hba hsa
          have h68 : Below W6.heap.size W6 W8 := hb7.trans (hba.mono hb7.size)
          have h48 : Below W4.heap.size W4 W8 := HB6.out.trans (h68.mono HB6.out.size)
          have h28 : Below W2.heap.size W2 W8 := H2.out.1.trans (h48.mono H2.out.1.size)
          have H3 : Hid (W8.heap[w7.heap.size]? = some (.cells #[.slice ao3 n3 c3, .slice bo3 m3 d3] 26 (0, 0)) ∧ W8.heap[w7.heap.size + 1]? = some (.cells #[.int .i64 0, .int .i64 0] 29 (0, 0)) ∧ AtL W8 (textC v) (Sd3 ++ Sr3) [.slice ao3 n3 c3, .slice bo3 m3 d3] ∧ (Sd3 ++ Sr3).Nodup) :=
            ⟨ea0, ea1, hat.same _ _ _ (fun s hs => hba.block s (AtL.lt _ _ _ hat s hs)), hnd⟩
          have H4 : Hid (Below w.heap.size w W8 ∧ W8.heap[w2.heap.size]? = some (.cells #[.slice ao1 n1 c1, .slice bo1 m1 d1] 26 (0, 0)) ∧ W8.heap[w3.heap.size]? = some (.cells #[.slice ao2 n2 c2, .slice bo2 m2 d2] 26 (0, 0)) ∧ At W8 (.row 38 4 (x.rules.flatMap ruleC)) Sr1 (.slice bo1 m1 d1) ∧ At W8 (.row 38 4 (y.rules.flatMap ruleC)) Sr2 (.slice bo2 m2 d2) ∧ (Sr1 ++ Sr2).Nodup) := by
            refine ⟨H1.out.1.trans (h28.mono H1.out.1.size), (h28.block _ (Array.getElem?_eq_some_iff.1 H1.out.2.2.1).1).trans H1.out.2.2.1, (h48.block _ (Array.getElem?_eq_some_iff.1 H2.out.2.2.1).1).trans H2.out.2.2.1, H1.out.2.2.2.2.1.same _ _ _ (fun s hs => h28.block s (At.lt _ _ _ H1.out.2.2.2.2.1 s hs)), H2.out.2.2.2.2.1.same _ _ _ (fun s hs => h48.block s (At.lt _ _ _ H2.out.2.2.2.2.1 s hs)), ?_⟩
            rw [List.nodup_append]
            refine ⟨H1.out.2.2.2.2.2, H2.out.2.2.2.2.2.1, fun s h1 t h2 e => ?_⟩
            subst e
            have := At.lt _ _ _ H1.out.2.2.2.2.1 s h1
            have := H2.out.2.2.2.2.2.2 s h2
            omega
          have HW8 := Lib.hid hW8
          obtain ⟨⟨l0, l1⟩, _⟩ := two_facts ea1
          obtain ⟨⟨p0, p1⟩, _⟩ := two_facts H4.out.2.1
          obtain ⟨⟨q0, q1⟩, _⟩ := two_facts H4.out.2.2.1
          clear hat hnd hge hb7 hd3 hr3 hW8 ea0 hba hsa h68 h48 h28 ea1
          clear H1 H2 HB6 HTA6 HTV HTK HTA HTB HW6 HW4 HW2 HLEN
          go_upto_region 17 with fail
          rw [← HW8.out]
          have B0 : Below W8.heap.size W8 W8.drew := (Below.refl _ _).drew
          clear HW8
          have hpq : ∀ ww, Below W8.heap.size W8 ww → ww.cell? ⟨w2.heap.size, 1, none⟩ = some (.slice bo1 m1 d1) ∧ ww.cell? ⟨w3.heap.size, 1, none⟩ = some (.slice bo2 m2 d2) := fun ww hb => ⟨(hb.cell (p := ⟨w2.heap.size, 1, none⟩) (World.block_lt_of_cell? _ _ p1)).trans p1, (hb.cell (p := ⟨w3.heap.size, 1, none⟩) (World.block_lt_of_cell? _ _ q1)).trans q1⟩
          have HPQ := Lib.hid hpq
          obtain ⟨xo1, So1, hso1, hsa1, hsc1⟩ := row_parts H4.out.2.2.2.1
          obtain ⟨xo2, So2, hso2, hsa2, hsc2⟩ := row_parts H4.out.2.2.2.2.1
          have HSO1 : Hid (∀ ww, Below W8.heap.size W8 ww → ww.ownsRow 0 38 4 (.slice bo1 m1 d1) m1 xo1 ∧ AtL ww (x.rules.flatMap ruleC) So1 xo1) := fun ww hb => ⟨own_same hso1 (fun g hg => hb.block g (hso1.lt g (mem_ownL.1 hg)).2), hsa1.same _ _ _ (fun g hg => hb.block g (AtL.lt _ _ _ hsa1 g hg))⟩
          have HSO2 : Hid (∀ ww, Below W8.heap.size W8 ww → ww.ownsRow 0 38 4 (.slice bo2 m2 d2) m2 xo2 ∧ AtL ww (y.rules.flatMap ruleC) So2 xo2) := fun ww hb => ⟨own_same hso2 (fun g hg => hb.block g (hso2.lt g (mem_ownL.1 hg)).2), hsa2.same _ _ _ (fun g hg => hb.block g (AtL.lt _ _ _ hsa2 g hg))⟩
          have HONE : Hid ((∀ u ∈ xo1, u.oneCell' = true) ∧ (∀ u ∈ xo2, u.oneCell' = true)) := ⟨rows_one _ _ _ hsa1 rule_ones, rows_one _ _ _ hsa2 rule_ones⟩
          have HMM : Hid (m1 = x.rules.length ∧ m2 = y.rules.length ∧ x.rules.length + y.rules.length ≤ 100000) := by
            rw [flat_length ruleC 4 (fun _ => rfl)] at hsc1 hsc2
            have h9 := congrArg List.length HV.out.2.1
            rw [List.length_map, List.length_map, List.length_append] at h9
            have h8 := HSM.out.2.2.2.2.1
            exact ⟨by have hsc1 : x.rules.length * 4 = m1 * 4 := hsc1; omega, by have hsc2 : y.rules.length * 4 = m2 * 4 := hsc2; omega, by omega⟩
          have HSB : Hid (smallT ⟨[], x.rules ++ y.rules⟩) := ⟨by simp, by simp, by show (x.rules ++ y.rules).length ≤ _; rw [List.length_append]; exact HMM.out.2.2, fun r hr => by
            rcases List.mem_append.1 hr with hr | hr
            · exact HSM.out.1.2.2.2 r hr
            · exact HSM.out.2.1.2.2.2 r hr⟩
          clear hso1 hsa1 hsc1 hso2 hsa2 hsc2 hpq
          obtain ⟨i0, hi0, hz0, hz1, hz2⟩ := info_parts Try.infoRule
          have HI := Lib.hid hi0
          have HZ := Lib.hid (And.intro hz0 (And.intro hz1 hz2))
          clear hi0 hz0 hz1 hz2 l0 l1 p0 p1 q0 q1
          have pD := HPQ.out _ B0
          have bB : Below W8.heap.size W8 (W8.alloc (.cells #[] 38)).drew := ((Below.refl _ _).alloc (Nat.le_refl _) _).drew
          have bL : Below W8.heap.size W8 (W8.alloc (.cells #[.slice none 0 0, .slice none 0 0] 26)).drew := ((Below.refl _ _).alloc (Nat.le_refl _) _).drew
          have bBL : Below W8.heap.size W8 ((W8.alloc (.cells #[] 38)).alloc (.cells #[.slice none 0 0, .slice none 0 0] 26)).drew := (((Below.refl _ _).alloc (Nat.le_refl _) _).alloc (by simp) _).drew
          have bLB : Below W8.heap.size W8 ((W8.alloc (.cells #[.slice none 0 0, .slice none 0 0] 26)).alloc (.cells #[] 38)).drew := (((Below.refl _ _).alloc (Nat.le_refl _) _).alloc (by simp) _).drew
          have pB := HPQ.out _ bB
          have pL := HPQ.out _ bL
          have pBL := HPQ.out _ bBL
          have pLB := HPQ.out _ bLB
          have oB : (W8.alloc (.cells #[] 38)).drew.ownsRow 0 38 4 (.slice (some ⟨W8.heap.size, 0, none⟩) 0 0) 0 [] := lit0 (heap_alloc_new W8 _)
          have oBL : ((W8.alloc (.cells #[] 38)).alloc (.cells #[.slice none 0 0, .slice none 0 0] 26)).drew.ownsRow 0 38 4 (.slice (some ⟨W8.heap.size, 0, none⟩) 0 0) 0 [] := lit0 ((Below.heap_alloc _ _ _ (by simp)).trans (heap_alloc_new W8 _))
          have oLB : ((W8.alloc (.cells #[.slice none 0 0, .slice none 0 0] 26)).alloc (.cells #[] 38)).drew.ownsRow 0 38 4 (.slice (some ⟨W8.heap.size + 1, 0, none⟩) 0 0) 0 [] := lit0 (show ((W8.alloc (.cells #[.slice none 0 0, .slice none 0 0] 26)).alloc (.cells #[] 38)).heap[W8.heap.size + 1]? = _ by have := heap_alloc_new (W8.alloc (.cells #[.slice none 0 0, .slice none 0 0] 26)) (.cells #[] 38); rwa [show (W8.alloc (.cells #[.slice none 0 0, .slice none 0 0] 26)).heap.size = W8.heap.size + 1 by simp] at this)
          have yBL : ((W8.alloc (.cells #[] 38)).alloc (.cells #[.slice none 0 0, .slice none 0 0] 26)).drew.heap[W8.heap.size + 1]? = some (.cells #[.slice none 0 0, .slice none 0 0] 26 (0, 0)) := (show ((W8.alloc (.cells #[] 38)).alloc (.cells #[.slice none 0 0, .slice none 0 0] 26)).heap[W8.heap.size + 1]? = _ by have := heap_alloc_new (W8.alloc (.cells #[] 38)) (.cells #[.slice none 0 0, .slice none 0 0] 26); rwa [show (W8.alloc (.cells #[] 38)).heap.size = W8.heap.size + 1 by simp] at this)
          have yLB : ((W8.alloc (.cells #[.slice none 0 0, .slice none 0 0] 26)).alloc (.cells #[] 38)).drew.heap[W8.heap.size]? = some (.cells #[.slice none 0 0, .slice none 0 0] 26 (0, 0)) := (Below.heap_alloc _ _ _ (by simp)).trans (heap_alloc_new W8 _)
          go_cut [15] from 82 to 90 (fun v15 wx => ∃ (b15 : Nat) (u0 u1 : Value) (SB : List Nat), v15 = .pointer (some ⟨b15, 0, none⟩) ∧ wx.heap[b15]? = some (.cells #[u0, u1] 26 (0, 0)) ∧ AtL wx (textC (plT ⟨[], x.rules ++ y.rules⟩)) SB [u0, u1] ∧ Below W8.heap.size W8 wx)
          case first =>
            go_region_law (first
              | (refine step_append_s rfl (.tmp 82) (.tmp 84) 24 rfl 38 i0 _ 4 72 Try.underlying24 HI.out HZ.out.1 HZ.out.2.1 HZ.out.2.2 rfl (by decide) (.slice (some ⟨W8.heap.size, 0, none⟩) 0 0) 0 [] rfl oB (.slice bo1 m1 d1) m1 rfl xo1 (HSO1.out _ bB).1 HONE.out.1 (by have := HMM.out; unfold maxLen; omega) (by have := HMM.out; omega) ?_
                 intro v1 w1 ho1 hg1 hn1
                 rw [Nat.zero_add, List.nil_append] at ho1
                 obtain ⟨va, vc, rfl⟩ := own_form ho1
                 have b1 : Below W8.heap.size W8 w1 := bB.grown hg1 bB.size (fun g hg => by simp [Value.ownBlock] at hg; omega)
                 have b1L : Below W8.heap.size W8 (w1.alloc (.cells #[.slice none 0 0, .slice none 0 0] 26)) := b1.alloc b1.size _
                 have e1 := HPQ.out _ b1
                 have e1L := HPQ.out _ b1L
                 have o1L : (w1.alloc (.cells #[.slice none 0 0, .slice none 0 0] 26)).ownsRow 0 38 4 (.slice va m1 vc) m1 xo1 := own_same ho1 (fun g hg => Below.heap_alloc _ _ _ (ho1.lt g (mem_ownL.1 hg)).2)
                 have nn1 : ∀ k, (Value.slice va m1 vc).ownBlock = some k → W8.heap.size ≤ k := fun k hk => by
                   rcases hn1 k hk with h | h
                   · simp [Value.ownBlock] at h; omega
                   · have := bB.size; omega
                 clear hg1 hn1)
              | (refine step_append_s rfl (.tmp 82) (.tmp 84) 24 rfl 38 i0 _ 4 72 Try.underlying24 HI.out HZ.out.1 HZ.out.2.1 HZ.out.2.2 rfl (by decide) (.slice (some ⟨W8.heap.size, 0, none⟩) 0 0) 0 [] rfl oBL (.slice bo1 m1 d1) m1 rfl xo1 (HSO1.out _ bBL).1 HONE.out.1 (by have := HMM.out; unfold maxLen; omega) (by have := HMM.out; omega) ?_
                 intro v1 w1 ho1 hg1 hn1
                 rw [Nat.zero_add, List.nil_append] at ho1
                 obtain ⟨va, vc, rfl⟩ := own_form ho1
                 have b1 : Below W8.heap.size W8 w1 := bBL.grown hg1 bBL.size (fun g hg => by simp [Value.ownBlock] at hg; omega)
                 have b1L : Below W8.heap.size W8 (w1.alloc (.cells #[.slice none 0 0, .slice none 0 0] 26)) := b1.alloc b1.size _
                 have e1 := HPQ.out _ b1
                 have e1L := HPQ.out _ b1L
                 have o1L : (w1.alloc (.cells #[.slice none 0 0, .slice none 0 0] 26)).ownsRow 0 38 4 (.slice va m1 vc) m1 xo1 := own_same ho1 (fun g hg => Below.heap_alloc _ _ _ (ho1.lt g (mem_ownL.1 hg)).2)
                 have nn1 : ∀ k, (Value.slice va m1 vc).ownBlock = some k → W8.heap.size ≤ k := fun k hk => by
                   rcases hn1 k hk with h | h
                   · simp [Value.ownBlock] at h; omega
                   · have := bBL.size; omega
                 have y1 : w1.heap[W8.heap.size + 1]? = some (.cells #[.slice none 0 0, .slice none 0 0] 26 (0, 0)) ∧ W8.heap.size + 1 < w1.heap.size ∧ (Value.slice va m1 vc).ownBlock ≠ some (W8.heap.size + 1) ∧ W8.heap.size ≤ W8.heap.size + 1 := by
                   have hlt : W8.heap.size + 1 < (((W8.alloc (.cells #[] 38)).alloc (.cells #[.slice none 0 0, .slice none 0 0] 26)).drew).heap.size := (Array.getElem?_eq_some_iff.1 yBL).1
                   refine ⟨(hg1.block _ hlt (fun h => by simp [Value.ownBlock] at h)).trans yBL, by have := hg1.size; omega, fun h => ?_, by omega⟩
                   rcases hn1 _ h with h | h
                   · simp [Value.ownBlock] at h
                   · omega
                 clear hg1 hn1)
              | (refine step_append_s rfl (.tmp 82) (.tmp 84) 24 rfl 38 i0 _ 4 72 Try.underlying24 HI.out HZ.out.1 HZ.out.2.1 HZ.out.2.2 rfl (by decide) (.slice (some ⟨W8.heap.size + 1, 0, none⟩) 0 0) 0 [] rfl oLB (.slice bo1 m1 d1) m1 rfl xo1 (HSO1.out _ bLB).1 HONE.out.1 (by have := HMM.out; unfold maxLen; omega) (by have := HMM.out; omega) ?_
                 intro v1 w1 ho1 hg1 hn1
                 rw [Nat.zero_add, List.nil_append] at ho1
                 obtain ⟨va, vc, rfl⟩ := own_form ho1
                 have b1 : Below W8.heap.size W8 w1 := bLB.grown hg1 bLB.size (fun g hg => by simp [Value.ownBlock] at hg; omega)
                 have b1L : Below W8.heap.size W8 (w1.alloc (.cells #[.slice none 0 0, .slice none 0 0] 26)) := b1.alloc b1.size _
                 have e1 := HPQ.out _ b1
                 have e1L := HPQ.out _ b1L
                 have o1L : (w1.alloc (.cells #[.slice none 0 0, .slice none 0 0] 26)).ownsRow 0 38 4 (.slice va m1 vc) m1 xo1 := own_same ho1 (fun g hg => Below.heap_alloc _ _ _ (ho1.lt g (mem_ownL.1 hg)).2)
                 have nn1 : ∀ k, (Value.slice va m1 vc).ownBlock = some k → W8.heap.size ≤ k := fun k hk => by
                   rcases hn1 k hk with h | h
                   · simp [Value.ownBlock] at h; omega
                   · have := bLB.size; omega
                 have y1 : w1.heap[W8.heap.size]? = some (.cells #[.slice none 0 0, .slice none 0 0] 26 (0, 0)) ∧ W8.heap.size < w1.heap.size ∧ (Value.slice va m1 vc).ownBlock ≠ some (W8.heap.size) ∧ W8.heap.size ≤ W8.heap.size := by
                   have hlt : W8.heap.size < (((W8.alloc (.cells #[.slice none 0 0, .slice none 0 0] 26)).alloc (.cells #[] 38)).drew).heap.size := (Array.getElem?_eq_some_iff.1 yLB).1
                   refine ⟨(hg1.block _ hlt (fun h => by simp [Value.ownBlock] at h)).trans yLB, by have := hg1.size; omega, fun h => ?_, by omega⟩
                   rcases hn1 _ h with h | h
                   · simp [Value.ownBlock] at h
                   · omega
                 clear hg1 hn1)
              | (refine step_append_s rfl (.tmp 85) (.tmp 87) 24 rfl 38 i0 _ 4 72 Try.underlying24 HI.out HZ.out.1 HZ.out.2.1 HZ.out.2.2 rfl (by decide) (.slice va m1 vc) m1 xo1 rfl ho1 (.slice bo2 m2 d2) m2 rfl xo2 (HSO2.out _ b1).1 HONE.out.2 (by have := HMM.out; unfold maxLen; omega) (by have := HMM.out; omega) ?_
                 intro v2 w2' ho2 hg2 hn2
                 obtain ⟨vb, vd, rfl⟩ := own_form ho2
                 have b2 : Below W8.heap.size W8 w2' := b1.grown hg2 b1.size (fun g hg => nn1 g hg)
                 have b2L : Below W8.heap.size W8 (w2'.alloc (.cells #[.slice none 0 0, .slice none 0 0] 26)) := b2.alloc b2.size _
                 have a2 : AtL w2' (textC ⟨[], x.rules ++ y.rules⟩) ([] ++ (ownL (.slice vb (m1 + m2) vd) ++ (So1 ++ So2))) [.slice none 0 0, .slice vb (m1 + m2) vd] := by
                   refine text_close (by simpa using At.empty w2' 35 4) ?_
                   unfold At
                   have hh := HMM.out
                   refine ⟨m1 + m2, xo1 ++ xo2, So1 ++ So2, ?_, ho2, rfl, ?_⟩
                   · show ((x.rules ++ y.rules).flatMap ruleC).length = _
                     rw [flat_length ruleC 4 (fun _ => rfl), List.length_append]; omega
                   · show AtL w2' ((x.rules ++ y.rules).flatMap ruleC) (So1 ++ So2) (xo1 ++ xo2)
                     rw [List.flatMap_append]
                     exact AtL.append _ _ _ _ _ _ (HSO1.out _ b2).2 (HSO2.out _ b2).2
                 have a2L := a2.same (w' := w2'.alloc (.cells #[.slice none 0 0, .slice none 0 0] 26)) _ _ _ (fun g hg => Below.heap_alloc _ _ _ (AtL.lt _ _ _ a2 g hg))
                 try have y2 : w2'.heap[W8.heap.size + 1]? = some (.cells #[.slice none 0 0, .slice none 0 0] 26 (0, 0)) ∧ W8.heap.size + 1 < w2'.heap.size ∧ W8.heap.size ≤ W8.heap.size + 1 := ⟨(hg2.block _ y1.2.1 (fun h => y1.2.2.1 h.symm)).trans y1.1, Nat.lt_of_lt_of_le y1.2.1 hg2.size, y1.2.2.2⟩
                 try have y2 : w2'.heap[W8.heap.size]? = some (.cells #[.slice none 0 0, .slice none 0 0] 26 (0, 0)) ∧ W8.heap.size < w2'.heap.size ∧ W8.heap.size ≤ W8.heap.size := ⟨(hg2.block _ y1.2.1 (fun h => y1.2.2.1 h.symm)).trans y1.1, Nat.lt_of_lt_of_le y1.2.1 hg2.size, y1.2.2.2⟩
                 clear ho2 hg2 hn2)
              | (refine step_append_s rfl (.tmp 85) (.tmp 87) 24 rfl 38 i0 _ 4 72 Try.underlying24 HI.out HZ.out.1 HZ.out.2.1 HZ.out.2.2 rfl (by decide) (.slice va m1 vc) m1 xo1 rfl o1L (.slice bo2 m2 d2) m2 rfl xo2 (HSO2.out _ b1L).1 HONE.out.2 (by have := HMM.out; unfold maxLen; omega) (by have := HMM.out; omega) ?_
                 intro v2 w2' ho2 hg2 hn2
                 obtain ⟨vb, vd, rfl⟩ := own_form ho2
                 have b2 : Below W8.heap.size W8 w2' := b1L.grown hg2 b1L.size (fun g hg => nn1 g hg)
                 have b2L : Below W8.heap.size W8 (w2'.alloc (.cells #[.slice none 0 0, .slice none 0 0] 26)) := b2.alloc b2.size _
                 have a2 : AtL w2' (textC ⟨[], x.rules ++ y.rules⟩) ([] ++ (ownL (.slice vb (m1 + m2) vd) ++ (So1 ++ So2))) [.slice none 0 0, .slice vb (m1 + m2) vd] := by
                   refine text_close (by simpa using At.empty w2' 35 4) ?_
                   unfold At
                   have hh := HMM.out
                   refine ⟨m1 + m2, xo1 ++ xo2, So1 ++ So2, ?_, ho2, rfl, ?_⟩
                   · show ((x.rules ++ y.rules).flatMap ruleC).length = _
                     rw [flat_length ruleC 4 (fun _ => rfl), List.length_append]; omega
                   · show AtL w2' ((x.rules ++ y.rules).flatMap ruleC) (So1 ++ So2) (xo1 ++ xo2)
                     rw [List.flatMap_append]
                     exact AtL.append _ _ _ _ _ _ (HSO1.out _ b2).2 (HSO2.out _ b2).2
                 have a2L := a2.same (w' := w2'.alloc (.cells #[.slice none 0 0, .slice none 0 0] 26)) _ _ _ (fun g hg => Below.heap_alloc _ _ _ (AtL.lt _ _ _ a2 g hg))
                 have y2 : w2'.heap[w1.heap.size]? = some (.cells #[.slice none 0 0, .slice none 0 0] 26 (0, 0)) ∧ w1.heap.size < w2'.heap.size ∧ W8.heap.size ≤ w1.heap.size := by
                   have hlt : w1.heap.size < (w1.alloc (.cells #[.slice none 0 0, .slice none 0 0] 26)).heap.size := by simp
                   refine ⟨(hg2.block _ hlt (fun h => ?_)).trans (heap_alloc_new w1 _), by have := hg2.size; omega, b1.size⟩
                   have := (ho1.lt _ h.symm).2
                   omega
                 clear ho2 hg2 hn2)
              | (go_simp
                 go_at_call 10
                 refine (plain_of ⟨[], x.rules ++ y.rules⟩ HSB.out _ [.slice none 0 0, .slice vb (m1 + m2) vd] w2' a2).mono ?_
                 rintro e wC ⟨vyB, SB, rfl, hatB, hndB, hgeB, hbB⟩
                 obtain ⟨ua, un, uc, ud, ue, uf, rfl⟩ := AtL.two hatB
                 have b3 : Below W8.heap.size W8 wC := b2.trans (hbB.mono b2.size)
                 first
                   | (have y3 : wC.heap[W8.heap.size + 1]? = some (.cells #[.slice none 0 0, .slice none 0 0] 26 (0, 0)) := (hbB.block _ y2.2.1).trans y2.1
                      have f3 : (∀ s ∈ SB, s ≠ W8.heap.size + 1) ∧ W8.heap.size ≤ W8.heap.size + 1 := ⟨fun s hs => by have h := hgeB s hs; have h2 := y2.2.1; omega, y2.2.2⟩
                      obtain ⟨⟨r0, r1⟩, r2, r3⟩ := two_facts y3)
                   | (have y3 : wC.heap[W8.heap.size]? = some (.cells #[.slice none 0 0, .slice none 0 0] 26 (0, 0)) := (hbB.block _ y2.2.1).trans y2.1
                      have f3 : (∀ s ∈ SB, s ≠ W8.heap.size) ∧ W8.heap.size ≤ W8.heap.size := ⟨fun s hs => by have h := hgeB s hs; have h2 := y2.2.1; omega, y2.2.2⟩
                      obtain ⟨⟨r0, r1⟩, r2, r3⟩ := two_facts y3)
                   | (have y3 : wC.heap[w1.heap.size]? = some (.cells #[.slice none 0 0, .slice none 0 0] 26 (0, 0)) := (hbB.block _ y2.2.1).trans y2.1
                      have f3 : (∀ s ∈ SB, s ≠ w1.heap.size) ∧ W8.heap.size ≤ w1.heap.size := ⟨fun s hs => by have h := hgeB s hs; have h2 := y2.2.1; omega, y2.2.2⟩
                      obtain ⟨⟨r0, r1⟩, r2, r3⟩ := two_facts y3)
                   | skip
                 clear hbB hgeB hndB)
              | (go_simp
                 go_at_call 10
                 refine (plain_of ⟨[], x.rules ++ y.rules⟩ HSB.out _ [.slice none 0 0, .slice vb (m1 + m2) vd] (w2'.alloc (.cells #[.slice none 0 0, .slice none 0 0] 26)) a2L).mono ?_
                 rintro e wC ⟨vyB, SB, rfl, hatB, hndB, hgeB, hbB⟩
                 obtain ⟨ua, un, uc, ud, ue, uf, rfl⟩ := AtL.two hatB
                 have b3 : Below W8.heap.size W8 wC := b2L.trans (hbB.mono b2L.size)
                 have y3 : wC.heap[w2'.heap.size]? = some (.cells #[.slice none 0 0, .slice none 0 0] 26 (0, 0)) := (hbB.block _ (by simp)).trans (heap_alloc_new w2' _)
                 have f3 : (∀ s ∈ SB, s ≠ w2'.heap.size) ∧ W8.heap.size ≤ w2'.heap.size := ⟨fun s hs => by have h := hgeB s hs; simp at h; omega, b2.size⟩
                 obtain ⟨⟨r0, r1⟩, r2, r3⟩ := two_facts y3
                 clear hbB hgeB hndB))
            all_goals
              try go_wp2_with fail
              first
                | (go_meet
                   exact both_fin y3 hatB f3.1 b3 f3.2)
                | (go_meet
                   exact both_new hatB b3)
          case rest =>
            obtain ⟨b15, u0, u1, SB, rfl, hb15, hatB, hbc⟩ := hcut
            obtain ⟨SdB, SrB, ua, un, uc, ub, um, ud, rfl, huu, hdB, hrB⟩ := text_open hatB
            injection huu with hu0 hu1
            injection hu1 with hu1 hu2
            subst hu0 hu1
            obtain rfl := HMM.out.1
            have hvl := congrArg List.length HV.out.1
            rw [List.length_map] at hvl
            obtain ⟨dv, hdv⟩ : ∃ dv, v.decls = [dv] := by
              cases h : v.decls with
              | nil => rw [h] at hvl; simp at hvl
              | cons a l =>
                cases l with
                | nil => exact ⟨a, rfl⟩
                | cons b l => rw [h] at hvl; simp at hvl
            have hkind : dv.kind = [108, 101, 102, 116] := by
              have h := HV.out.1
              rw [hdv] at h
              injection h with h _
              exact congrArg De.kind h
            obtain ⟨Sd3', Sr3', ao3', n3', c3', bo3', m3', d3', hS3, hv3, hd3, hr3⟩ := text_open H3.out.2.2.1
            injection hv3 with hv31 hv32
            injection hv31 with e1 e2 e3
            subst e1 e2 e3
            have hn3 : n3 = 1 := by
              have h := hd3.count
              rw [flat_length declC 4 (fun _ => rfl), hdv] at h
              simp at h
              omega
            subst hn3
            obtain ⟨gd, vd, Sx, rfl, hnd, hgd, hvd, hcd⟩ := hd3.elem 0 (by omega)
            rw [flat_elem declC 4 (fun _ => rfl) _ 0 dv (by rw [hdv]; rfl)] at hvd
            obtain ⟨aox, nx, cx, Sy, rfl, _⟩ := declParts hvd
            have hk0 : W8.cell? ⟨gd, 0, none⟩ = some (.string (mkS [108, 101, 102, 116])) := by
              have := hcd 0 _ rfl
              rw [hkind] at this
              simpa using this
            have hcl : ∀ ww, Below wc.heap.size wc ww → ((ww.cell? ⟨w7.heap.size, 0, none⟩ = some (.slice (some ⟨gd, 0, none⟩) 1 c3) ∧ ww.cell? ⟨w7.heap.size, 1, none⟩ = some (.slice bo3 m3 d3)) ∧ ww.cell? ⟨w7.heap.size + 1, 0, none⟩ = some (.int .i64 0)) ∧ (ww.cell? ⟨b15, 1, none⟩ = some (.slice ub um ud) ∧ ww.cell? ⟨w2.heap.size, 1, none⟩ = some (.slice bo1 x.rules.length d1)) ∧ ww.cell? ⟨gd, 0, none⟩ = some (.string (mkS [108, 101, 102, 116])) := by
              intro ww hb
              have h8 : Below W8.heap.size W8 ww := hbc.trans (hb.mono hbc.size)
              have a1 := two_facts ((h8.block _ (Array.getElem?_eq_some_iff.1 H3.out.1).1).trans H3.out.1)
              have a2 := two_facts ((h8.block _ (Array.getElem?_eq_some_iff.1 H3.out.2.1).1).trans H3.out.2.1)
              have a3 := two_facts ((hb.block _ (Array.getElem?_eq_some_iff.1 hb15).1).trans hb15)
              exact ⟨⟨a1.1, a2.1.1⟩, ⟨a3.1.2, (HPQ.out ww h8).1⟩, (h8.cell (p := ⟨gd, 0, none⟩) hgd).trans hk0⟩
            have HCL := Lib.hid hcl
            have hS3' : (.slice (some ⟨gd, 0, none⟩) 1 c3 : Value) = .slice (some ⟨gd, 0, none⟩) 1 c3 := rfl
            have HPV : Hid (∀ ww, Below wc.heap.size wc ww → Calls Try.prog 10 #[.agg #[.slice (some ⟨gd, 0, none⟩) 1 c3, .slice bo3 m3 d3]] ww (CopP (textC (plT v)) ww)) := fun ww hb => by
              have h8 : Below W8.heap.size W8 ww := hbc.trans (hb.mono hbc.size)
              exact plain_of v HSM.out.2.2 _ [.slice (some ⟨gd, 0, none⟩) 1 c3, .slice bo3 m3 d3] ww (H3.out.2.2.1.same _ _ _ (fun g hg => h8.block g (AtL.lt _ _ _ H3.out.2.2.1 g hg)))
            have HRB : Hid (At wc (.row 38 4 ((plT v).rules.flatMap ruleC)) SrB (.slice ub um ud)) := by
              have h : (plT v).rules = (plT ⟨[], x.rules ++ y.rules⟩).rules := HV.out.2.1
              rw [h]; exact hrB
            have HBC : Hid (Below w.heap.size w wc ∧ w.heap.size ≤ wc.heap.size) := ⟨H4.out.1.trans (hbc.mono H4.out.1.size), by have := hbc.size; have := H4.out.1.size; omega⟩
            have hw7 := (Array.getElem?_eq_some_iff.1 H3.out.2.1).1
            clear hvl hdv hkind hd3 hr3 hS3 hv32 hcl hk0 hnd hvd hcd hb15 hatB hdB hrB hS3' hgd
            have c0 : Below wc.heap.size wc wc.drew := (Below.refl _ _).drew
            obtain ⟨⟨⟨s0, s1⟩, s2⟩, ⟨s3, s4⟩, s5⟩ := HCL.out _ c0
            obtain ⟨⟨⟨t0, t1⟩, t2⟩, ⟨t3, t4⟩, t5⟩ := HCL.out wc (Below.refl _ _)
            clear H3 H4 HSM HV HMM HSB HSO1 HSO2 HONE HPQ HI HZ bB bL bBL bLB pB pL pBL pLB oB oBL oLB yBL yLB pD B0 hbc
            go_wp2_with fail
            go_region_law (
              (go_simp
               first
                | (go_at_call 12
                   refine (SameRules_of ((plT v).rules) _ _ _ _ _ _ SrV SrB w9 hrV (HRB.out.same (w' := w9) _ _ _ (fun s hs => b9.block s (At.lt _ _ _ HRB.out s hs))) (fun r _ S S' vx vy ww h1 h2 => SameRule_one r S S' vx vy ww h1 h2)).mono ?_
                   rintro e w10 ⟨rfl, hb10⟩
                   have b10 : Below wc.heap.size wc w10 := b9.trans (hb10.mono b9.size)
                   obtain ⟨⟨⟨v0, v1⟩, v2⟩, ⟨v3, v4⟩, v5⟩ := HCL.out _ b10)
                | (go_at_call 13
                   refine (Go.Proofs.Try.strings_HasPrefix _ _ _).mono ?_
                   rintro e w11 ⟨rfl, hw11⟩
                   rw [hw11]
                   clear hw11)
                | (go_at_call 10
                   refine (HPV.out _ c0).mono ?_
                   rintro e w9 ⟨vyV, SV, rfl, hatV, hndV, hgeV, hbV⟩
                   obtain ⟨SdV, SrV, ka, kn, kc, kb, km, kd, rfl, rfl, hdV, hrV⟩ := text_open hatV
                   have b9 : Below wc.heap.size wc w9 := c0.trans (hbV.mono (Nat.le_refl _))
                   obtain ⟨⟨⟨z0, z1⟩, z2⟩, ⟨z3, z4⟩, z5⟩ := HCL.out _ b9
                   have FL := fld_text w9 ka kb kn kc km kd
                   clear hatV hndV hgeV hbV)))
            all_goals
              go_wp2_with fail
              go_ret
              exact ⟨rfl, HBC.out.1.trans (b10.mono HBC.out.2)⟩
end Go.Proofs.Ytbgkigdlbiknnaa
