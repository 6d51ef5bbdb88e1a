/- Right: the recover, the root's kind, each. -/
import Derived.Test.YtldedhfbpongmaaDoorNodAp
import Derived.Defers
import Derived.Recover
set_option maxRecDepth 100000
namespace NodT
open Go Go.RowKit
/-- Right of a tree. -/
def rightB (t : Nd) : Bool := [1, 9].contains t.kind && allB t.kind t
end NodT
namespace Go.Proofs.YtldedhfbpongmaaDoor
open Go.Instr Go.RowKit NodT
set_option linter.unusedVariables false
theorem right_catch (p : Addr) (x : Value) (u : TypeId) (pv : Value) (older : List PanicEntry) (w : World) (hc : w.cell? p = some x) (hz : w.frozen? p = false) :
    CallsD Tryd.prog 22 #[.pointer (some p)] (.panicking ({ v := .iface u pv, recovered := false } :: older)) w fun e u' w' =>
      e = .returned (.tuple #[]) ∧ u' = .panicking ({ v := .iface u pv, recovered := true } :: older) ∧ w' = w.setCell p (.bool false) := by
  refine callsD_of_wpS Tryd.func22 rfl fun c₀ cs hu => ?_
  apply wpS_seq
  apply wpS_region
  simp [wpOpsS, go_sem, recoverD, hu, Tryd.ntmps22, Exit.thenS]
  refine wpS_cond (t := true) (by simp [Act.eval, Array.replicate]) ?_
  simp only [if_true]
  apply wpS_region
  simp [wpOpsS, go_sem, hc, hz, bodyPostS, results, Tryd.results22]
theorem right_idle (p : Addr) (w : World) :
    CallsD Tryd.prog 22 #[.pointer (some p)] .returning w fun e u' w' => e = .returned (.tuple #[]) ∧ u' = .returning ∧ w' = w := by
  refine callsD_of_wpS Tryd.func22 rfl fun c₀ cs hu => ?_
  apply wpS_seq
  apply wpS_region
  simp [wpOpsS, go_sem, recoverD, hu, Tryd.ntmps22, Exit.thenS]
  refine wpS_cond (t := false) (by simp [Act.eval, Array.replicate]) ?_
  simp only [Bool.false_eq_true, if_false]
  refine wpS_of_wp (wp_skip ?_)
  cases c₀
  simp_all [bodyPostS, results, Tryd.results22]
set_option maxHeartbeats 2000000 in
theorem Right_any (t : Nd) (w : World) (B : Nat) (h : In w B t) (hB : B ≤ w.heap.size) (hm : many t ≤ 1000000) (ho : OpsAt 0 w) :
    Calls Tryd.prog 13 #[t.val] w fun e w' => e = .returned (.bool (rightB t)) ∧ Below w.heap.size w w' := by
  have hmf : ∀ (fn : Fn) (first cap : Array Value) (w : World), (Instr.makeFunc fn first cap).run Tryd.prog w = .ok (.func fn first cap) w := fun _ _ _ _ => rfl
  have H1 := Lib.hid h
  have HO := Lib.hid ho
  clear h ho
  unfold Nd.val Nd.row
  go_enter_defers Tryd.func13, Tryd.ntmps13
  go_upto_region 2 with fail
  have hb0 : Below w.heap.size w ((w.alloc (.cells #[.int .u8 t.kind, .string t.text, .int .i64 t.num, .int .i64 t.place, .slice t.addr t.kids.length t.cap] 25)).alloc (.cells #[.bool false] 4)) := ((Below.refl _ _).alloc (Nat.le_refl _) _).alloc (by simp) _
  have hbx : Blk5 ((w.alloc (.cells #[.int .u8 t.kind, .string t.text, .int .i64 t.num, .int .i64 t.place, .slice t.addr t.kids.length t.cap] 25)).alloc (.cells #[.bool false] 4)) w.heap.size (.int .u8 t.kind) (.string t.text) (.int .i64 t.num) (.int .i64 t.place) (.slice t.addr t.kids.length t.cap) :=
    (Blk5.new w 25 _ _ _ _ _).under ((Below.refl (w.heap.size + 1) _).alloc (by simp) _) (by omega)
  have hok : ((w.alloc (.cells #[.int .u8 t.kind, .string t.text, .int .i64 t.num, .int .i64 t.place, .slice t.addr t.kids.length t.cap] 25)).alloc (.cells #[.bool false] 4)).cell? ⟨w.heap.size + 1, 0, none⟩ = some (.bool false) ∧ ((w.alloc (.cells #[.int .u8 t.kind, .string t.text, .int .i64 t.num, .int .i64 t.place, .slice t.addr t.kids.length t.cap] 25)).alloc (.cells #[.bool false] 4)).frozen? ⟨w.heap.size + 1, 0, none⟩ = false := by constructor <;> simp [go_sem]
  have hsz : ((w.alloc (.cells #[.int .u8 t.kind, .string t.text, .int .i64 t.num, .int .i64 t.place, .slice t.addr t.kids.length t.cap] 25)).alloc (.cells #[.bool false] 4)).heap.size = w.heap.size + 2 := by simp
  generalize ((w.alloc (.cells #[.int .u8 t.kind, .string t.text, .int .i64 t.num, .int .i64 t.place, .slice t.addr t.kids.length t.cap] 25)).alloc (.cells #[.bool false] 4)) = W0 at *
  have HB0 := Lib.hid hb0
  have HBX := Lib.hid hbx
  have HOK := Lib.hid hok
  have HC : Hid (Calls Tryd.prog 30 #[t.val, .pointer (some ⟨W0.heap.size + 1, 0, none⟩)] (((W0.alloc (.cells #[.int .u8 1, .int .u8 9] 22)).alloc (.cells #[.slice (some ⟨W0.heap.size, 0, none⟩) 2 2] 53)).drew) fun e w' => e = .returned (.bool ([1, 9].contains t.kind)) ∧ Below (((W0.alloc (.cells #[.int .u8 1, .int .u8 9] 22)).alloc (.cells #[.slice (some ⟨W0.heap.size, 0, none⟩) 2 2] 53)).drew).heap.size (((W0.alloc (.cells #[.int .u8 1, .int .u8 9] 22)).alloc (.cells #[.slice (some ⟨W0.heap.size, 0, none⟩) 2 2] 53)).drew) w') :=
    ofS1_any t (W0.heap.size + 1) [1, 9] _ ((KindsBox.new W0 [1, 9] (by decide) (by decide) _ rfl).keep (by simp) (fun _ _ => rfl) (by simp)) (by simp)
  have HKE : Hid (∀ V1, Below (((W0.alloc (.cells #[.int .u8 1, .int .u8 9] 22)).alloc (.cells #[.slice (some ⟨W0.heap.size, 0, none⟩) 2 2] 53)).drew).heap.size (((W0.alloc (.cells #[.int .u8 1, .int .u8 9] 22)).alloc (.cells #[.slice (some ⟨W0.heap.size, 0, none⟩) 2 2] 53)).drew) V1 → Below W0.heap.size W0 V1 ∧ ∀ o, V1.cell? ⟨w.heap.size, o, none⟩ = W0.cell? ⟨w.heap.size, o, none⟩) := fun V1 h => by
    have h1 : Below W0.heap.size W0 V1 := ((((Below.refl _ _).alloc (Nat.le_refl _) _).alloc (by simp) _).drew).trans (h.mono (by simp; omega))
    exact ⟨h1, fun o => h1.cell (p := ⟨w.heap.size, o, none⟩) (by show w.heap.size < _; omega)⟩
  have hlz : w.heap.size + 1 < W0.heap.size := by omega
  have hn1 : ¬ w.heap.size = W0.heap.size := by omega
  have hn2 : ¬ w.heap.size = W0.heap.size + 1 := by omega
  obtain ⟨q0, q1, q2, q3, q4, _⟩ := hbx
  clear hb0 hok hsz
  cases hk : [1, 9].contains t.kind
  · rw [hk] at HC
    have HR : Hid (rightB t = false) := by show _ = _; unfold rightB; rw [hk]; rfl
    clear hk
    have HEND : Hid (∀ V, Below W0.heap.size W0 V → V.cell? ⟨w.heap.size + 1, 0, none⟩ = some (.bool false) ∧ V.frozen? ⟨w.heap.size + 1, 0, none⟩ = false ∧ Below w.heap.size w V) := fun V hv =>
      ⟨(hv.cell (p := ⟨w.heap.size + 1, 0, none⟩) hlz).trans HOK.out.1, (hv.frozen (p := ⟨w.heap.size + 1, 0, none⟩) hlz).trans HOK.out.2, HB0.out.trans (hv.mono HB0.out.size)⟩
    have hl1 : w.heap.size < W0.heap.size := by omega
    have hl2 : w.heap.size < W0.heap.size + 1 := by omega
    have hkk : ∀ (o1 o2 : Obj) (j : Nat), (W0.alloc o1).cell? ⟨w.heap.size, j, none⟩ = W0.cell? ⟨w.heap.size, j, none⟩ ∧ ((W0.alloc o1).alloc o2).cell? ⟨w.heap.size, j, none⟩ = W0.cell? ⟨w.heap.size, j, none⟩ := fun o1 o2 j =>
      ⟨World.cell?_alloc_lt _ _ _ (by exact hl1), (World.cell?_alloc_lt _ _ _ (by simp; omega)).trans (World.cell?_alloc_lt _ _ _ (by exact hl1))⟩
    have r0 := (hkk (.cells #[.int .u8 1, .int .u8 9] 22) (.cells #[.slice (some ⟨W0.heap.size, 0, none⟩) 2 2] 53) 0)
    have r1 := (hkk (.cells #[.int .u8 1, .int .u8 9] 22) (.cells #[.slice (some ⟨W0.heap.size, 0, none⟩) 2 2] 53) 1)
    have r2 := (hkk (.cells #[.int .u8 1, .int .u8 9] 22) (.cells #[.slice (some ⟨W0.heap.size, 0, none⟩) 2 2] 53) 2)
    have r3 := (hkk (.cells #[.int .u8 1, .int .u8 9] 22) (.cells #[.slice (some ⟨W0.heap.size, 0, none⟩) 2 2] 53) 3)
    have r4 := (hkk (.cells #[.int .u8 1, .int .u8 9] 22) (.cells #[.slice (some ⟨W0.heap.size, 0, none⟩) 2 2] 53) 4)
    rw [q0] at r0; rw [q1] at r1; rw [q2] at r2; rw [q3] at r3; rw [q4] at r4
    obtain ⟨r00, r01⟩ := r0
    obtain ⟨r10, r11⟩ := r1
    obtain ⟨r20, r21⟩ := r2
    obtain ⟨r30, r31⟩ := r3
    obtain ⟨r40, r41⟩ := r4
    clear hkk
    go_region_with (first
      | (go_at_call 24; refine (of_any _ _ _ _ _).mono ?_; rintro e w' ⟨rfl, rfl⟩)
      | (go_at_call 30; refine HC.out.mono ?_; rintro e w9 ⟨rfl, hb9⟩)
      | (go_at_call 23
         refine (must_no _).mono ?_
         rintro e w' ⟨rfl, rfl⟩
         suffices hz : wpAny Tryd.prog .any #[] (fun _ _ _ => True) 0 #[] ⟨#[], []⟩ w9 by
           obtain ⟨k0, k1, k3⟩ := HEND.out _ (HKE.out _ hb9).1
           have K3 := Lib.hid k3
           clear k3
           refine leaves_cons (f := 22) (args := #[.pointer (some ⟨w.heap.size + 1, 0, none⟩)]) (by simp) (by simp [go_sem]) ?_
           refine (right_catch ⟨w.heap.size + 1, 0, none⟩ (.bool false) _ _ [] _ k0 k1).mono ?_
           rintro e u' w'' ⟨rfl, rfl, rfl⟩
           have k2 : (w9.setCell ⟨w.heap.size + 1, 0, none⟩ (.bool false)).cell? ⟨w.heap.size + 1, 0, none⟩ = some (.bool false) := by simp [go_sem, k0]
           simp [Leaves, settle, results, Tryd.results13, go_sem, k2, HR.out]
           exact K3.out.setCell (by simp) _))
    all_goals trivial
  · rw [hk] at HC
    have HK := Lib.hid hk
    clear hk
    go_cut [9] from 5 to 12 (fun _ wx => Below W0.heap.size W0 wx)
    case first =>
      go_region_held3 (fun V => V.cell? ⟨w.heap.size, 0, none⟩ = some (.int .u8 t.kind) ∧ V.cell? ⟨w.heap.size, 1, none⟩ = some (.string t.text) ∧ V.cell? ⟨w.heap.size, 2, none⟩ = some (.int .i64 t.num) ∧ V.cell? ⟨w.heap.size, 3, none⟩ = some (.int .i64 t.place) ∧ V.cell? ⟨w.heap.size, 4, none⟩ = some (.slice t.addr t.kids.length t.cap)) (first | go_keep | (refine ⟨?_, ?_, ?_, ?_, ?_⟩ <;> (rw [(HKE.out _ (by assumption)).2]; assumption))) (first | (go_at_call 24; refine (of_any _ _ _ _ _).mono ?_; rintro e w' ⟨rfl, rfl⟩) | (go_at_call 23; refine (must_yes _).mono ?_; rintro e w' ⟨rfl, rfl⟩) | (go_at_call 30; refine HC.out.mono ?_; rintro e w9 ⟨rfl, hb9⟩))
      all_goals
        go_wp2_with fail
        go_meet
        exact (HKE.out _ hb9).1
    case rest =>
      have hbc := hcut
      have hsc := hbc.size
      have HBC := Lib.hid hbc
      have hw0 := HB0.out.size
      have hbw : Below w.heap.size w wc := HB0.out.trans (hbc.mono hw0)
      obtain ⟨p0, p1, p2, p3, p4, _⟩ := HBX.out.under hbc (by omega)
      have ok0 := (hbc.cell (p := ⟨w.heap.size + 1, 0, none⟩) hlz).trans HOK.out.1
      have ok1 := (hbc.frozen (p := ⟨w.heap.size + 1, 0, none⟩) hlz).trans HOK.out.2
      have hin := H1.out.under (hbw.mono hB)
      have hop := HO.out.block (hbw.block _ HO.out.lt)
      have hol := HO.out.lt
      clear hcut q0 q1 q2 q3 q4 HC HKE HBX HOK
      have hb1 : Below wc.heap.size wc (wc.alloc (.cells #[.int .i64 1] 3)) := (Below.refl _ _).alloc (Nat.le_refl _) _
      have HE := Lib.hid (each_all t (wc.alloc (.cells #[.int .i64 1] 3)) B wc.heap.size w.heap.size t.kind (hin.under (hb1.mono (by omega))) (by simp; omega) (by omega) hm (by have := hin.fits.kind; omega) (by omega) (hop.block (hb1.block _ hop.lt)) (by omega) (by simp [go_sem]) (by simp [go_sem]) ((hb1.cell (p := ⟨w.heap.size, 0, none⟩) (by show w.heap.size < _; omega)).trans p0))
      unfold Nd.val Nd.row at HE
      have r0 := (hb1.cell (p := ⟨w.heap.size, 0, none⟩) (by show w.heap.size < _; omega)).trans p0
      have r1 := (hb1.cell (p := ⟨w.heap.size, 1, none⟩) (by show w.heap.size < _; omega)).trans p1
      have r2 := (hb1.cell (p := ⟨w.heap.size, 2, none⟩) (by show w.heap.size < _; omega)).trans p2
      have r3 := (hb1.cell (p := ⟨w.heap.size, 3, none⟩) (by show w.heap.size < _; omega)).trans p3
      have r4 := (hb1.cell (p := ⟨w.heap.size, 4, none⟩) (by show w.heap.size < _; omega)).trans p4
      clear hb1 hin hop
      have hm0 : w.heap.size < wc.heap.size := by omega
      have hm3 : w.heap.size + 1 < wc.heap.size := by omega
      have hm1 : ¬ w.heap.size = wc.heap.size := by omega
      have hm2 : ¬ w.heap.size + 1 = wc.heap.size := by omega
      go_wp2_with fail
      refine HE.out.mono ?_
      rintro e w5 (⟨rfl, hg, hr⟩ | ⟨rfl, hg, hr⟩)
      · have hb6 : Below wc.heap.size wc w5 := ((Below.refl wc.heap.size wc).alloc (Nat.le_refl _) _).trans (below_of_grown hg (by simp) (fun k hk => by injection hk; omega))
        have k0 := (hb6.cell (p := ⟨w.heap.size + 1, 0, none⟩) hm3).trans ok0
        have k1 := (hb6.frozen (p := ⟨w.heap.size + 1, 0, none⟩) hm3).trans ok1
        have HBW : Hid (Below w.heap.size w w5) := hbw.trans (hb6.mono (by omega))
        have HR : Hid (rightB t = true) := by show _ = _; unfold rightB; rw [HK.out, hr]; rfl
        have hl5 : w.heap.size + 1 < w5.heap.size := by have := hb6.size; omega
        clear hg hb6 hr hbw ok0 ok1 r0 r1 r2 r3 r4 p0 p1 p2 p3 p4
        go_wp2_with fail
        refine leaves_cons (f := 22) (args := #[.pointer (some ⟨w.heap.size + 1, 0, none⟩)]) (by simp) (by simp [go_sem]) ?_
        refine (right_idle ⟨w.heap.size + 1, 0, none⟩ _).mono ?_
        rintro e u' w'' ⟨rfl, rfl, rfl⟩
        have k2 : (w5.setCell ⟨w.heap.size + 1, 0, none⟩ (.bool true)).cell? ⟨w.heap.size + 1, 0, none⟩ = some (.bool true) := by simp [go_sem, k0]
        simp [Leaves, settle, results, Tryd.results13, go_sem, k2, HR.out]
        exact HBW.out.setCell (by simp) _
      · have hb6 : Below wc.heap.size wc w5 := ((Below.refl wc.heap.size wc).alloc (Nat.le_refl _) _).trans (below_of_grown hg (by simp) (fun k hk => by injection hk; omega))
        have k0 := (hb6.cell (p := ⟨w.heap.size + 1, 0, none⟩) hm3).trans ok0
        have k1 := (hb6.frozen (p := ⟨w.heap.size + 1, 0, none⟩) hm3).trans ok1
        have HBW : Hid (Below w.heap.size w w5) := hbw.trans (hb6.mono (by omega))
        have HR : Hid (rightB t = false) := by show _ = _; unfold rightB; rw [HK.out, hr]; rfl
        have hl5 : w.heap.size + 1 < w5.heap.size := by have := hb6.size; omega
        clear hg hb6 hr hbw ok0 ok1 r0 r1 r2 r3 r4 p0 p1 p2 p3 p4
        refine leaves_cons (f := 22) (args := #[.pointer (some ⟨w.heap.size + 1, 0, none⟩)]) (by simp) (by simp [go_sem]) ?_
        refine (right_catch ⟨w.heap.size + 1, 0, none⟩ (.bool false) _ _ [] _ k0 k1).mono ?_
        rintro e u' w'' ⟨rfl, rfl, rfl⟩
        have k2 : (w5.setCell ⟨w.heap.size + 1, 0, none⟩ (.bool false)).cell? ⟨w.heap.size + 1, 0, none⟩ = some (.bool false) := by simp [go_sem, k0]
        simp [Leaves, settle, results, Tryd.results13, go_sem, k2, HR.out]
        exact HBW.out.setCell (by simp) _
end Go.Proofs.YtldedhfbpongmaaDoor
