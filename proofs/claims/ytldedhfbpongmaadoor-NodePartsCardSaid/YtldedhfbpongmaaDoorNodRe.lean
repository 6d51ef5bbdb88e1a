/- The law's own builders of trees: of, num, action; and the tables of shapes over them. -/
/- The law's full: a tree with a node of each kind. -/
/- The law's file: a file with a node of each kind. -/
import Derived.Test.YtldedhfbpongmaaDoorNodRb
import Derived.Test.YtldedhfbpongmaaDoorNodF
import Derived.Test.YtldedhfbpongmaaDoorNodQ
import Derived.Lib.Hide
import Derived.Shelf.Abstract
set_option maxRecDepth 100000
namespace Go.Proofs.YtldedhfbpongmaaDoor
open Go.Instr Go.RowKit NodT ShapeR
set_option linter.unusedVariables false
theorem Tryd.infoNode5 : (Tryd.prog.info? 25).map (fun i => (i.zero, i.size)) = some (some (.agg zero5), 5) := by kernel_rfl
theorem nodeFacts : NodeFacts Tryd.prog 25 23 := ⟨Tryd.underlying23, ⟨_, Tryd.underlying25, rfl⟩, Tryd.infoNode5⟩
theorem put_heap (w : World) (g : Nat) (tn : TypeId) (h : w.heap[g]? = some (.cells #[.int .u8 0, .string ⟨#[]⟩, .int .i64 0, .int .i64 0, .slice none 0 0] tn)) (v0 v1 v2 v3 v4 : Value) :
    (put5 w g v0 v1 v2 v3 v4).heap[g]? = some (.cells #[v0, v1, v2, v3, v4] tn) := by
  unfold put5
  rw [set_heap _ _ _ _ _ _ (set_heap _ _ _ _ _ _ (set_heap _ _ _ _ _ _ (set_heap _ _ _ _ _ _ (set_heap _ _ _ _ _ _ h))))]
  rfl
theorem lawof_any (k : Int) (s : ByteArray) (A : Option Addr) (n c : Nat) (w : World) : Calls Tryd.prog 15 #[.int .u8 k, .string s, .slice A n c] w fun e w' => e = .returned (.agg #[.int .u8 k, .string s, .int .i64 0, .int .i64 0, .slice A n c]) ∧ Below w.heap.size w w' := by
  go_enter Tryd.func15, Tryd.ntmps15
  go_wp2
  refine bodyPost_ret (v := .agg #[.int .u8 k, .string s, .int .i64 0, .int .i64 0, .slice A n c]) (by simp [results, Tryd.results15, go_sem]) rfl ⟨rfl, ?_⟩
  go_grown
theorem num_any (k m : Int) (A : Option Addr) (n c : Nat) (w : World) : Calls Tryd.prog 14 #[.int .u8 k, .int .i64 m, .slice A n c] w fun e w' => e = .returned (.agg #[.int .u8 k, .string ⟨#[]⟩, .int .i64 m, .int .i64 0, .slice A n c]) ∧ Below w.heap.size w w' := by
  go_enter Tryd.func14, Tryd.ntmps14
  go_wp2
  refine bodyPost_ret (v := .agg #[.int .u8 k, .string ⟨#[]⟩, .int .i64 m, .int .i64 0, .slice A n c]) (by simp [results, Tryd.results14, go_sem]) rfl ⟨rfl, ?_⟩
  go_grown
theorem action_any (A : Option Addr) (n c : Nat) (w : World) : Calls Tryd.prog 16 #[.slice A n c] w fun e w' => e = .returned (.agg #[.int .u8 9, .string ⟨#[]⟩, .int .i64 0, .int .i64 0, .slice A n c]) ∧ Below w.heap.size w w' := by
  have HO := Lib.hid (fun ww => lawof_any 9 ⟨#[]⟩ A n c ww)
  go_enter Tryd.func16, Tryd.ntmps16
  go_wp2_with fail
  refine (HO.out _).mono ?_
  rintro e w1 ⟨rfl, hw⟩
  have hz : w1.heap[w.heap.size]? = some (.cells #[.int .u8 0, .string ⟨#[]⟩, .int .i64 0, .int .i64 0, .slice none 0 0] 25) := (hw.block _ (by simp)).trans (heap_alloc_new _ _)
  have hb : Below w.heap.size w w1 := ((Below.refl _ _).alloc (Nat.le_refl _) _).trans (hw.mono (by simp))
  have c0 : w1.cell? ⟨w.heap.size, 0, none⟩ = some (.int .u8 0) := by rw [Lib.cell_of_heap hz]; rfl
  have c1 : w1.cell? ⟨w.heap.size, 1, none⟩ = some (.string ⟨#[]⟩) := by rw [Lib.cell_of_heap hz]; rfl
  have c2 : w1.cell? ⟨w.heap.size, 2, none⟩ = some (.int .i64 0) := by rw [Lib.cell_of_heap hz]; rfl
  have c3 : w1.cell? ⟨w.heap.size, 3, none⟩ = some (.int .i64 0) := by rw [Lib.cell_of_heap hz]; rfl
  have c4 : w1.cell? ⟨w.heap.size, 4, none⟩ = some (.slice none 0 0) := by rw [Lib.cell_of_heap hz]; rfl
  have f0 : w1.frozen? ⟨w.heap.size, 0, none⟩ = false := Lib.frozen_of_heap hz 0
  have f1 : w1.frozen? ⟨w.heap.size, 1, none⟩ = false := Lib.frozen_of_heap hz 1
  have f2 : w1.frozen? ⟨w.heap.size, 2, none⟩ = false := Lib.frozen_of_heap hz 2
  have f3 : w1.frozen? ⟨w.heap.size, 3, none⟩ = false := Lib.frozen_of_heap hz 3
  have f4 : w1.frozen? ⟨w.heap.size, 4, none⟩ = false := Lib.frozen_of_heap hz 4
  have HB := Lib.hid hb
  have hz' := hz
  clear hz hw hb HO
  have hz := hz'
  have hW := put_heap w1 w.heap.size 25 hz (.int .u8 9) (.string ⟨#[]⟩) (.int .i64 0) (.int .i64 0) (.slice A n c)
  have HP := Lib.hid (put5_below HB.out (Nat.le_refl w.heap.size) (.int .u8 9) (.string ⟨#[]⟩) (.int .i64 0) (.int .i64 0) (.slice A n c))
  unfold put5 at hW HP
  have HW := Lib.hid hW
  clear hz hz' hW
  go_wp2
  have hW := HW.out
  have hP := HP.out
  generalize ((((w1.setCell ⟨w.heap.size, 0, none⟩ (.int .u8 9)).setCell ⟨w.heap.size, 1, none⟩ (.string ⟨#[]⟩)).setCell ⟨w.heap.size, 2, none⟩ (.int .i64 0)).setCell ⟨w.heap.size, 3, none⟩ (.int .i64 0)).setCell ⟨w.heap.size, 4, none⟩ (.slice A n c) = W at *
  have e0 : W.cell? ⟨w.heap.size, 0, none⟩ = some (.int .u8 9) := by rw [Lib.cell_of_heap hW]; rfl
  have e1 : W.cell? ⟨w.heap.size, 1, none⟩ = some (.string ⟨#[]⟩) := by rw [Lib.cell_of_heap hW]; rfl
  have e2 : W.cell? ⟨w.heap.size, 2, none⟩ = some (.int .i64 0) := by rw [Lib.cell_of_heap hW]; rfl
  have e3 : W.cell? ⟨w.heap.size, 3, none⟩ = some (.int .i64 0) := by rw [Lib.cell_of_heap hW]; rfl
  have e4 : W.cell? ⟨w.heap.size, 4, none⟩ = some (.slice A n c) := by rw [Lib.cell_of_heap hW]; rfl
  refine bodyPost_ret (v := .agg #[.int .u8 9, .string ⟨#[]⟩, .int .i64 0, .int .i64 0, .slice A n c]) (by simp [results, Tryd.results16, go_sem, e0, e1, e2, e3, e4]) rfl ⟨rfl, hP⟩
def kidsOf : Sh → Option (List Nd)
  | .row Ts => some Ts
  | .lit (.slice none 0 0) => some []
  | _ => none
theorem kidsOf_den {tn : TypeId} {base : Nat} {x : Sh} {Ts : List Nd} {v : Value} {w : World} (h : kidsOf x = some Ts) (hd : Den tn base x v w) : ∃ (A : Option Addr) (c : Nat) (ks : List Nd), v = .slice A ks.length c ∧ erL ks = Ts ∧ InL w w.heap.size A c ks := by
  unfold kidsOf at h
  split at h
  · injection h with h; subst h; exact hd
  · injection h with h; subst h
    have hv : v = .slice none 0 0 := hd
    exact ⟨none, 0, [], hv, rfl, ⟨fun h => by simp at h, Nat.le_refl _, fun _ => ⟨rfl, rfl⟩, Nat.zero_le _, fun _ h => by simp at h⟩⟩
  · cases h
theorem mk_tree {w w' : World} {ks : List Nd} {A : Option Addr} {c : Nat} (h : InL w w.heap.size A c ks) (hb : Below w.heap.size w w') (k : Int) (s : ByteArray) (n : Int) (hk : 0 ≤ k ∧ k < 256) (hs : s.size ≤ maxLen) (hn : -9223372036854775808 ≤ n ∧ n ≤ 9223372036854775807) (tn : TypeId) (base : Nat) :
    Den tn base (.tree (.mk k.toNat s n 0 none 0 (erL ks))) (.agg #[.int .u8 k, .string s, .int .i64 n, .int .i64 0, .slice A ks.length c]) w' := by
  refine ⟨.mk k.toNat s n 0 A c ks, ?_, rfl, ?_⟩
  · rw [val_mk, show ((k.toNat : Nat) : Int) = k from by omega]
  · have h2 := (h.under hb).more hb.size
    exact .mk _ ⟨by show k.toNat < 256; omega, hs, hn, ⟨by show (-9223372036854775808 : Int) ≤ 0; decide, by show (0 : Int) ≤ 9223372036854775807; decide⟩, h2.len, h2.cap, h2.nil⟩ h2.rows fun i u hi => h2.kid hi
def ext0 (f : FuncId) (shs : List Sh) : Option Sh :=
  if f = 15 then match shs with
    | [.lit (.int .u8 k), .lit (.string s), x] => if 0 ≤ k ∧ k < 256 ∧ s.size ≤ 1000 then (kidsOf x).map fun Ts => .tree (.mk k.toNat s 0 0 none 0 Ts) else none
    | _ => none
  else if f = 14 then match shs with
    | [.lit (.int .u8 k), .lit (.int .i64 n), x] => if 0 ≤ k ∧ k < 256 ∧ -1000 ≤ n ∧ n ≤ 1000 then (kidsOf x).map fun Ts => .tree (.mk k.toNat ⟨#[]⟩ n 0 none 0 Ts) else none
    | _ => none
  else if f = 16 then match shs with
    | [x] => (kidsOf x).map fun Ts => .tree (.mk 9 ⟨#[]⟩ 0 0 none 0 Ts)
    | _ => none
  else none
theorem denAll_nil {tn : TypeId} {base : Nat} {vs : List Value} {w : World} (h : DenAll tn base [] vs w) : vs = [] := by
  cases vs with
  | nil => rfl
  | cons v vs => exact h.elim
theorem denAll_cons {tn : TypeId} {base : Nat} {s : Sh} {ss : List Sh} {vs : List Value} {w : World} (h : DenAll tn base (s :: ss) vs w) : ∃ v us, vs = v :: us ∧ Den tn base s v w ∧ DenAll tn base ss us w := by
  cases vs with
  | nil => exact h.elim
  | cons v vs => exact ⟨v, vs, rfl, h.1, h.2⟩
theorem ext0_ok (base : Nat) (Inv : World → Prop) : ExtOK Tryd.prog 25 base Inv ext0 := by
  intro f shs s h
  unfold ext0 at h
  split at h
  · rename_i hf
    subst hf
    refine ⟨enters_of Tryd.func15 (by kernel_rfl) rfl, fun vs w hd _ => ?_⟩
    split at h
    · rename_i k s x
      split at h
      · rename_i hk
        obtain ⟨Ts, hT, rfl⟩ := Option.map_eq_some_iff.1 h
        obtain ⟨v0, vs, rfl, h0, hd⟩ := denAll_cons hd
        obtain ⟨v1, vs, rfl, h1, hd⟩ := denAll_cons hd
        obtain ⟨v2, vs, rfl, h2, hd⟩ := denAll_cons hd
        obtain rfl := denAll_nil hd
        obtain rfl : v0 = .int .u8 k := h0
        obtain rfl : v1 = .string s := h1
        obtain ⟨A, c, ks, rfl, rfl, hin⟩ := kidsOf_den hT h2
        refine (lawof_any k s A ks.length c w).mono ?_
        rintro e w' ⟨rfl, hb⟩
        exact ⟨_, rfl, mk_tree hin hb k s 0 ⟨hk.1, hk.2.1⟩ (by unfold maxLen; omega) (by decide) _ _, hb⟩
      · cases h
    · cases h
  · split at h
    · rename_i hf
      subst hf
      refine ⟨enters_of Tryd.func14 (by kernel_rfl) rfl, fun vs w hd _ => ?_⟩
      split at h
      · rename_i k n x
        split at h
        · rename_i hk
          obtain ⟨Ts, hT, rfl⟩ := Option.map_eq_some_iff.1 h
          obtain ⟨v0, vs, rfl, h0, hd⟩ := denAll_cons hd
          obtain ⟨v1, vs, rfl, h1, hd⟩ := denAll_cons hd
          obtain ⟨v2, vs, rfl, h2, hd⟩ := denAll_cons hd
          obtain rfl := denAll_nil hd
          obtain rfl : v0 = .int .u8 k := h0
          obtain rfl : v1 = .int .i64 n := h1
          obtain ⟨A, c, ks, rfl, rfl, hin⟩ := kidsOf_den hT h2
          refine (num_any k n A ks.length c w).mono ?_
          rintro e w' ⟨rfl, hb⟩
          exact ⟨_, rfl, mk_tree hin hb k ⟨#[]⟩ n ⟨hk.1, hk.2.1⟩ (by decide) (by omega) _ _, hb⟩
        · cases h
      · cases h
    · split at h
      · rename_i hf
        subst hf
        refine ⟨enters_of Tryd.func16 (by kernel_rfl) rfl, fun vs w hd _ => ?_⟩
        split at h
        · rename_i x
          obtain ⟨Ts, hT, rfl⟩ := Option.map_eq_some_iff.1 h
          obtain ⟨v0, vs, rfl, h0, hd⟩ := denAll_cons hd
          obtain rfl := denAll_nil hd
          obtain ⟨A, c, ks, rfl, rfl, hin⟩ := kidsOf_den hT h0
          refine (action_any A ks.length c w).mono ?_
          rintro e w' ⟨rfl, hb⟩
          exact ⟨_, rfl, mk_tree hin hb 9 ⟨#[]⟩ 0 (by decide) (by decide) (by decide) _ _, hb⟩
        · cases h
      · cases h
end Go.Proofs.YtldedhfbpongmaaDoor
namespace NodT
open Go
def T5 (k : Nat) (s : ByteArray) (ks : List Nd) : Nd := .mk k s 0 0 none 0 ks
def N5 (k : Nat) (n : Int) (ks : List Nd) : Nd := .mk k ⟨#[]⟩ n 0 none 0 ks
def tX : Nd := (T5 25 ⟨#[120]⟩ [])
def tOne : Nd := (T5 21 ⟨#[49, 48]⟩ [])
def tT : Nd := (T5 8 ⟨#[]⟩ [(T5 7 ⟨#[105, 110, 116]⟩ [])])
def tCall : Nd := (T5 28 ⟨#[102]⟩ [tOne, (T5 23 ⟨#[255]⟩ [])])
def tTwo : Nd := (T5 27 ⟨#[60, 61]⟩ [(T5 26 ⟨#[45]⟩ [tX]), (T5 22 ⟨#[48, 46, 53, 48]⟩ [])])
def tPart : Nd := (T5 31 ⟨#[112]⟩ [(T5 29 ⟨#[]⟩ [tX, tOne])])
def tList : Nd := (T5 32 ⟨#[]⟩ [tT, tOne, (T5 30 ⟨#[]⟩ [tX, tOne])])
def tMade : Nd := (T5 33 ⟨#[84]⟩ [(T5 34 ⟨#[97]⟩ [(N5 24 1 [])]), (T5 34 ⟨#[98]⟩ [(N5 24 0 [])])])
def tSw : Nd := (T5 15 ⟨#[]⟩ [tX, (T5 16 ⟨#[]⟩ [tOne, tX, (T5 9 ⟨#[]⟩ [])]), (T5 16 ⟨#[]⟩ [(T5 9 ⟨#[]⟩ [(T5 18 ⟨#[]⟩ [])])])])
def tLoop : Nd := (T5 14 ⟨#[76]⟩ [tTwo, (T5 9 ⟨#[]⟩ [(T5 18 ⟨#[76]⟩ []), (T5 19 ⟨#[]⟩ [])])])
def tIfs : Nd := (T5 13 ⟨#[]⟩ [tTwo, (T5 9 ⟨#[]⟩ []), (T5 13 ⟨#[]⟩ [tX, (T5 9 ⟨#[]⟩ []), (T5 9 ⟨#[]⟩ [])])])
def tFull : Nd := (T5 9 ⟨#[]⟩ [(T5 10 ⟨#[118]⟩ [tT]), (T5 10 ⟨#[119]⟩ [tT, tList]), (N5 11 1 [tX, tMade]), (N5 11 2 [tX, tX, tCall]), (N5 12 1 [tPart, tOne]), (N5 12 2 [tX, tPart, tOne, tTwo]), (N5 12 2 [tX, tX, tCall]), tIfs, tLoop, (T5 14 ⟨#[]⟩ [(T5 9 ⟨#[]⟩ [])]), tSw, (T5 17 ⟨#[]⟩ [tOne, tX]), (T5 20 ⟨#[]⟩ [tCall]), (T5 9 ⟨#[]⟩ [])])
def env3 : List (Nat × Sh) := [(0, .res), (1, .var tX), (2, .var tOne), (3, .var tT)]
def env4 : List (Nat × Sh) := [(0, .res), (1, .var tX), (2, .var tOne), (3, .var tT), (4, .var tCall)]
def env5 : List (Nat × Sh) := [(0, .res), (1, .var tX), (2, .var tOne), (3, .var tT), (4, .var tCall), (5, .var tTwo)]
def env6 : List (Nat × Sh) := [(0, .res), (1, .var tX), (2, .var tOne), (3, .var tT), (4, .var tCall), (5, .var tTwo), (6, .var tPart)]
def env7 : List (Nat × Sh) := [(0, .res), (1, .var tX), (2, .var tOne), (3, .var tT), (4, .var tCall), (5, .var tTwo), (6, .var tPart), (7, .var tList)]
def env8 : List (Nat × Sh) := [(0, .res), (1, .var tX), (2, .var tOne), (3, .var tT), (4, .var tCall), (5, .var tTwo), (6, .var tPart), (7, .var tList), (8, .var tMade)]
def env9 : List (Nat × Sh) := [(0, .res), (1, .var tX), (2, .var tOne), (3, .var tT), (4, .var tCall), (5, .var tTwo), (6, .var tPart), (7, .var tList), (8, .var tMade), (9, .var tSw)]
def env10 : List (Nat × Sh) := [(0, .res), (1, .var tX), (2, .var tOne), (3, .var tT), (4, .var tCall), (5, .var tTwo), (6, .var tPart), (7, .var tList), (8, .var tMade), (9, .var tSw), (10, .var tLoop)]
def env11 : List (Nat × Sh) := [(0, .res), (1, .var tX), (2, .var tOne), (3, .var tT), (4, .var tCall), (5, .var tTwo), (6, .var tPart), (7, .var tList), (8, .var tMade), (9, .var tSw), (10, .var tLoop), (11, .var tIfs)]
def envF : List (Nat × Sh) := [(0, .var tFull)]
end NodT
namespace Go.Proofs.YtldedhfbpongmaaDoor
open Go.Instr Go.RowKit NodT ShapeR
set_option linter.unusedVariables false
/-- A tree is handed back. -/
def TreePost (T : Nd) (w : World) (e : Ending) (w' : World) : Prop := ∃ t : Nd, e = .returned t.val ∧ er t = T ∧ In w' w'.heap.size t ∧ Below w.heap.size w w'
theorem inv_mono {base : Nat} : ∀ w w' : World, base < w.heap.size → Below w.heap.size w w' → base < w'.heap.size := fun w w' h hb => Nat.lt_of_lt_of_le h hb.size
theorem inv_stored {base : Nat} : ∀ (w w1 : World) (g : Nat) (o : Obj), base < w.heap.size → lowOf true base ≤ g → Stored w w1 g o → base < w1.heap.size := fun w w1 g o h _ hs => by rw [hs.size]; exact h
theorem cell_at {w : World} {g : Nat} {t : Nd} {tn : TypeId} (h : w.heap[g]? = some (.cells t.cs.toArray tn)) : w.cell? ⟨g, 0, none⟩ = some (.int .u8 t.kind) ∧ w.cell? ⟨g, 1, none⟩ = some (.string t.text) ∧ w.cell? ⟨g, 2, none⟩ = some (.int .i64 t.num) ∧ w.cell? ⟨g, 3, none⟩ = some (.int .i64 t.place) ∧ w.cell? ⟨g, 4, none⟩ = some (.slice t.addr t.kids.length t.cap) := by
  refine ⟨?_, ?_, ?_, ?_, ?_⟩ <;> (rw [Lib.cell_of_heap h]; rfl)
theorem leaf_in (w : World) (B : Nat) (k : Nat) (s : ByteArray) (hk : k < 256) (hs : s.size ≤ maxLen) : In w B (.mk k s 0 0 none 0 []) :=
  .mk _ ⟨hk, hs, by show (-9223372036854775808 : Int) ≤ 0 ∧ (0 : Int) ≤ 9223372036854775807; decide, by show (-9223372036854775808 : Int) ≤ 0 ∧ (0 : Int) ≤ 9223372036854775807; decide, Nat.le_refl _, Nat.zero_le _, fun _ => ⟨rfl, rfl⟩⟩ (fun h => by simp [Nd.kids] at h) (fun i u h => by simp [Nd.kids] at h)
theorem full_start (w w1 w2 w3 w4 : World) (hb1 : Below (w.alloc (.cells #[.int .u8 0, .string ⟨#[]⟩, .int .i64 0, .int .i64 0, .slice none 0 0] 25)).heap.size (w.alloc (.cells #[.int .u8 0, .string ⟨#[]⟩, .int .i64 0, .int .i64 0, .slice none 0 0] 25)) w1)
    (hb2 : Below w1.heap.size w1 w2) (hb3 : Below w2.heap.size w2 w3)
    (hb4 : Below (w3.alloc (.cells #[.int .u8 7, .string ⟨#[105, 110, 116]⟩, .int .i64 0, .int .i64 0, .slice none 0 0] 25)).heap.size (w3.alloc (.cells #[.int .u8 7, .string ⟨#[105, 110, 116]⟩, .int .i64 0, .int .i64 0, .slice none 0 0] 25)) w4)
    (a : Act) (ha : a.tmps.size = 125) (hd : a.defers = []) (h0 : a.tmps[0]? = some (.pointer (some ⟨w.heap.size, 0, none⟩))) (h1 : a.tmps[1]? = some (.pointer (some ⟨w4.heap.size, 0, none⟩)))
    (h2 : a.tmps[2]? = some (.pointer (some ⟨w4.heap.size + 1, 0, none⟩))) (h3 : a.tmps[3]? = some (.pointer (some ⟨w4.heap.size + 1 + 1, 0, none⟩))) :
    At (Den 25 w.heap.size) (fun w' => w.heap.size < w'.heap.size) env3 125 [] w.heap.size w a (((w4.alloc (.cells #[.int .u8 25, .string ⟨#[120]⟩, .int .i64 0, .int .i64 0, .slice none 0 0] 25)).alloc (.cells #[.int .u8 21, .string ⟨#[49, 48]⟩, .int .i64 0, .int .i64 0, .slice none 0 0] 25)).alloc
      (.cells #[.int .u8 8, .string ⟨#[]⟩, .int .i64 0, .int .i64 0, .slice (some ⟨w3.heap.size, 0, none⟩) 1 1] 25)) := by
  have hs0 : (w.alloc (.cells #[.int .u8 0, .string ⟨#[]⟩, .int .i64 0, .int .i64 0, .slice none 0 0] 25)).heap.size = w.heap.size + 1 := by simp
  have hs3 : (w3.alloc (.cells #[.int .u8 7, .string ⟨#[105, 110, 116]⟩, .int .i64 0, .int .i64 0, .slice none 0 0] 25)).heap.size = w3.heap.size + 1 := by simp
  have hin : InL (w3.alloc (.cells #[.int .u8 7, .string ⟨#[105, 110, 116]⟩, .int .i64 0, .int .i64 0, .slice none 0 0] 25)) (w3.heap.size + 1) (some ⟨w3.heap.size, 0, none⟩) 1 [.mk 7 ⟨#[105, 110, 116]⟩ 0 0 none 0 []] := by
    have h := row_new (w := w3) (ks := [.mk 7 ⟨#[105, 110, 116]⟩ 0 0 none 0 []]) (e := 25) (fun t ht => by obtain rfl := List.mem_singleton.1 ht; exact leaf_in _ _ _ _ (by decide) (by decide)) (by decide)
    rw [show (w3.alloc (.cells (cells [.mk 7 ⟨#[105, 110, 116]⟩ 0 0 none 0 []]).toArray 25)).heap.size = w3.heap.size + 1 from by simp] at h
    exact h
  have z1 := hb1.size
  have z2 := hb2.size
  have z3 := hb3.size
  have z4 := hb4.size
  rw [hs0] at z1
  rw [hs3] at z4
  have b0 : Below w.heap.size w (w.alloc (.cells #[.int .u8 0, .string ⟨#[]⟩, .int .i64 0, .int .i64 0, .slice none 0 0] 25)) := (Below.refl _ _).alloc (Nat.le_refl _) _
  have b3 : Below w3.heap.size w3 (w3.alloc (.cells #[.int .u8 7, .string ⟨#[105, 110, 116]⟩, .int .i64 0, .int .i64 0, .slice none 0 0] 25)) := (Below.refl _ _).alloc (Nat.le_refl _) _
  have c14 : Below (w.heap.size + 1) (w.alloc (.cells #[.int .u8 0, .string ⟨#[]⟩, .int .i64 0, .int .i64 0, .slice none 0 0] 25)) w4 :=
    ((((hb1.mono (by rw [hs0]; omega)).trans (hb2.mono (by omega))).trans (hb3.mono (by omega))).trans (b3.mono (by omega))).trans (hb4.mono (by rw [hs3]; omega))
  have hf : Below w4.heap.size w4 (((w4.alloc (.cells #[.int .u8 25, .string ⟨#[120]⟩, .int .i64 0, .int .i64 0, .slice none 0 0] 25)).alloc (.cells #[.int .u8 21, .string ⟨#[49, 48]⟩, .int .i64 0, .int .i64 0, .slice none 0 0] 25)).alloc
      (.cells #[.int .u8 8, .string ⟨#[]⟩, .int .i64 0, .int .i64 0, .slice (some ⟨w3.heap.size, 0, none⟩) 1 1] 25)) := (((Below.refl _ _).alloc (Nat.le_refl _) _).alloc (by simp) _).alloc (by simp; omega) _
  have g1 : (((w4.alloc (.cells #[.int .u8 25, .string ⟨#[120]⟩, .int .i64 0, .int .i64 0, .slice none 0 0] 25)).alloc (.cells #[.int .u8 21, .string ⟨#[49, 48]⟩, .int .i64 0, .int .i64 0, .slice none 0 0] 25)).alloc
      (.cells #[.int .u8 8, .string ⟨#[]⟩, .int .i64 0, .int .i64 0, .slice (some ⟨w3.heap.size, 0, none⟩) 1 1] 25)).heap[w4.heap.size]? = some (.cells #[.int .u8 25, .string ⟨#[120]⟩, .int .i64 0, .int .i64 0, .slice none 0 0] 25) := by
    rw [heap_alloc_old _ _ (by simp; omega), heap_alloc_old _ _ (by simp), heap_alloc_new]
  have g2 : (((w4.alloc (.cells #[.int .u8 25, .string ⟨#[120]⟩, .int .i64 0, .int .i64 0, .slice none 0 0] 25)).alloc (.cells #[.int .u8 21, .string ⟨#[49, 48]⟩, .int .i64 0, .int .i64 0, .slice none 0 0] 25)).alloc
      (.cells #[.int .u8 8, .string ⟨#[]⟩, .int .i64 0, .int .i64 0, .slice (some ⟨w3.heap.size, 0, none⟩) 1 1] 25)).heap[w4.heap.size + 1]? = some (.cells #[.int .u8 21, .string ⟨#[49, 48]⟩, .int .i64 0, .int .i64 0, .slice none 0 0] 25) := by
    have := heap_alloc_new (w4.alloc (.cells #[.int .u8 25, .string ⟨#[120]⟩, .int .i64 0, .int .i64 0, .slice none 0 0] 25)) (.cells #[.int .u8 21, .string ⟨#[49, 48]⟩, .int .i64 0, .int .i64 0, .slice none 0 0] 25)
    rw [show (w4.alloc (.cells #[.int .u8 25, .string ⟨#[120]⟩, .int .i64 0, .int .i64 0, .slice none 0 0] 25)).heap.size = w4.heap.size + 1 from by simp] at this
    rw [heap_alloc_old _ _ (by simp)]
    exact this
  have g3 : (((w4.alloc (.cells #[.int .u8 25, .string ⟨#[120]⟩, .int .i64 0, .int .i64 0, .slice none 0 0] 25)).alloc (.cells #[.int .u8 21, .string ⟨#[49, 48]⟩, .int .i64 0, .int .i64 0, .slice none 0 0] 25)).alloc
      (.cells #[.int .u8 8, .string ⟨#[]⟩, .int .i64 0, .int .i64 0, .slice (some ⟨w3.heap.size, 0, none⟩) 1 1] 25)).heap[w4.heap.size + 1 + 1]? = some (.cells #[.int .u8 8, .string ⟨#[]⟩, .int .i64 0, .int .i64 0, .slice (some ⟨w3.heap.size, 0, none⟩) 1 1] 25) := by
    have := heap_alloc_new ((w4.alloc (.cells #[.int .u8 25, .string ⟨#[120]⟩, .int .i64 0, .int .i64 0, .slice none 0 0] 25)).alloc (.cells #[.int .u8 21, .string ⟨#[49, 48]⟩, .int .i64 0, .int .i64 0, .slice none 0 0] 25)) (.cells #[.int .u8 8, .string ⟨#[]⟩, .int .i64 0, .int .i64 0, .slice (some ⟨w3.heap.size, 0, none⟩) 1 1] 25)
    rw [show ((w4.alloc (.cells #[.int .u8 25, .string ⟨#[120]⟩, .int .i64 0, .int .i64 0, .slice none 0 0] 25)).alloc (.cells #[.int .u8 21, .string ⟨#[49, 48]⟩, .int .i64 0, .int .i64 0, .slice none 0 0] 25)).heap.size = w4.heap.size + 1 + 1 from by simp] at this
    exact this
  have hbase : (((w4.alloc (.cells #[.int .u8 25, .string ⟨#[120]⟩, .int .i64 0, .int .i64 0, .slice none 0 0] 25)).alloc (.cells #[.int .u8 21, .string ⟨#[49, 48]⟩, .int .i64 0, .int .i64 0, .slice none 0 0] 25)).alloc
      (.cells #[.int .u8 8, .string ⟨#[]⟩, .int .i64 0, .int .i64 0, .slice (some ⟨w3.heap.size, 0, none⟩) 1 1] 25)).heap[w.heap.size]? = some (.cells zero5 25) := by
    rw [hf.block _ (by omega), c14.block _ (by omega)]
    exact heap_alloc_new _ _
  have hb4' : Below (w3.heap.size + 1) (w3.alloc (.cells #[.int .u8 7, .string ⟨#[105, 110, 116]⟩, .int .i64 0, .int .i64 0, .slice none 0 0] 25)) w4 := by rw [← hs3]; exact hb4
  have hlast := (hin.under (hb4'.trans (hf.mono (by omega)))).more (B' := (((w4.alloc (.cells #[.int .u8 25, .string ⟨#[120]⟩, .int .i64 0, .int .i64 0, .slice none 0 0] 25)).alloc (.cells #[.int .u8 21, .string ⟨#[49, 48]⟩, .int .i64 0, .int .i64 0, .slice none 0 0] 25)).alloc
      (.cells #[.int .u8 8, .string ⟨#[]⟩, .int .i64 0, .int .i64 0, .slice (some ⟨w3.heap.size, 0, none⟩) 1 1] 25)).heap.size) (by have := hf.size; omega)
  refine ⟨by have := hf.size; omega, ha, hd, ?_, b0.trans ((c14.mono (by omega)).trans (hf.mono (by omega)))⟩
  intro p hp
  simp only [env3, List.mem_cons, List.not_mem_nil, or_false] at hp
  rcases hp with rfl | rfl | rfl | rfl
  · exact ⟨_, h0, rfl, hbase⟩
  · exact ⟨_, h1, _, .mk 25 ⟨#[120]⟩ 0 0 none 0 [], rfl, by omega, g1, rfl, leaf_in _ _ _ _ (by decide) (by decide)⟩
  · exact ⟨_, h2, _, .mk 21 ⟨#[49, 48]⟩ 0 0 none 0 [], rfl, by omega, g2, rfl, leaf_in _ _ _ _ (by decide) (by decide)⟩
  · refine ⟨_, h3, _, .mk 8 ⟨#[]⟩ 0 0 (some ⟨w3.heap.size, 0, none⟩) 1 [.mk 7 ⟨#[105, 110, 116]⟩ 0 0 none 0 []], rfl, by omega, g3, rfl, ?_⟩
    exact .mk _ ⟨by show 8 < 256; decide, by show (⟨#[]⟩ : ByteArray).size ≤ maxLen; decide, by show (-9223372036854775808 : Int) ≤ 0 ∧ (0 : Int) ≤ 9223372036854775807; decide, by show (-9223372036854775808 : Int) ≤ 0 ∧ (0 : Int) ≤ 9223372036854775807; decide, hlast.len, hlast.cap, hlast.nil⟩ hlast.rows fun i u hi => hlast.kid hi
theorem run_res {w : World} {g : Nat} {t : Nd} (h : w.heap[g]? = some (.cells t.cs.toArray 25)) {tmps : Array Value} (hs : tmps[0]? = some (.pointer (some ⟨g, 0, none⟩))) {fn : Func} (hr : fn.results = #[.cell 0 25]) :
    (results fn tmps).run Tryd.prog w = .ok t.val w := by
  have hl : (loadVar 25 ⟨g, 0, none⟩).run Tryd.prog w = .ok t.val w := by
    obtain ⟨i0, hi, hz⟩ := Option.map_eq_some_iff.1 Tryd.infoNode5
    refine run_loadVar_mid w g 0 25 t.cs _ (fun j v hv => ?_) Tryd.underlying25 rfl (by simp [hi, (Prod.mk.inj hz).2, Nd.cs])
    rw [Lib.cell_of_heap h, Nat.zero_add, List.getElem?_toArray]
    exact hv
  unfold results
  rw [hr]
  simp [hs, asAddr, hl]
theorem ret_tree {base : Nat} {Inv : World → Prop} {n0 : Nat} {w : World} {T : Nd} {a : Act} {w' : World} (h : At (Den 25 base) Inv [(0, .var T)] n0 [] w.heap.size w a w') {fn : Func} (hr : fn.results = #[.cell 0 25]) :
    Code.wp Tryd.prog Code.ret (bodyPost Tryd.prog fn (TreePost T w)) a w' := by
  obtain ⟨v, hv, g, t, rfl, _, hg, rfl, hin⟩ := h.has (0, .var T) (List.mem_singleton.2 rfl)
  exact wp_ret (bodyPost_ret (run_res hg hv hr) h.defers ⟨t, rfl, rfl, hin, h.below⟩)
set_option maxHeartbeats 4000000 in
theorem full_any (w : World) : Calls Tryd.prog 29 #[] w (TreePost tFull w) := by
  go_enter Tryd.func29, Tryd.ntmps29
  go_wp2_with fail
  refine (lawof_any _ _ _ _ _ _).mono ?_
  rintro e w1 ⟨rfl, hb1⟩
  go_wp2_with fail
  refine (lawof_any _ _ _ _ _ _).mono ?_
  rintro e w2 ⟨rfl, hb2⟩
  go_wp2_with fail
  refine (lawof_any _ _ _ _ _ _).mono ?_
  rintro e w3 ⟨rfl, hb3⟩
  go_wp2_with fail
  refine (lawof_any _ _ _ _ _ _).mono ?_
  rintro e w4 ⟨rfl, hb4⟩
  go_wp2_with fail
  rename_i K hK
  refine region_ok (res := true) (base := w.heap.size) (Inv := fun w' => w.heap.size < w'.heap.size) (env := env3) (env3 := env4) (n := 5) (n0 := 125) (keep := [0, 1, 2, 3, 4]) (by kernel_rfl) nodeFacts (ext0_ok _ _) (fun _ h => h) inv_mono inv_stored ?chk (Nat.le_refl _) (full_start w w1 w2 w3 w4 hb1 hb2 hb3 hb4 _ rfl rfl rfl rfl rfl rfl) ?_
  case chk => kernel_rfl
  intro a0 x0 H
  refine hK _ _ ?_
  refine wp_seq_k fun K hK => ?_
  refine region_ok (res := true) (base := w.heap.size) (Inv := fun w' => w.heap.size < w'.heap.size) (env := env4) (env3 := env5) (n := 7) (n0 := 125) (keep := [0, 1, 2, 3, 4, 5]) (by kernel_rfl) nodeFacts (ext0_ok _ _) (fun _ h => h) inv_mono inv_stored ?chk (Nat.le_refl _) H ?_
  case chk => kernel_rfl
  intro a1 x1 H
  refine hK _ _ ?_
  refine wp_seq_k fun K hK => ?_
  refine region_ok (res := true) (base := w.heap.size) (Inv := fun w' => w.heap.size < w'.heap.size) (env := env5) (env3 := env6) (n := 7) (n0 := 125) (keep := [0, 1, 2, 3, 4, 5, 6]) (by kernel_rfl) nodeFacts (ext0_ok _ _) (fun _ h => h) inv_mono inv_stored ?chk (Nat.le_refl _) H ?_
  case chk => kernel_rfl
  intro a2 x2 H
  refine hK _ _ ?_
  refine wp_seq_k fun K hK => ?_
  refine region_ok (res := true) (base := w.heap.size) (Inv := fun w' => w.heap.size < w'.heap.size) (env := env6) (env3 := env7) (n := 9) (n0 := 125) (keep := [0, 1, 2, 3, 4, 5, 6, 7]) (by kernel_rfl) nodeFacts (ext0_ok _ _) (fun _ h => h) inv_mono inv_stored ?chk (Nat.le_refl _) H ?_
  case chk => kernel_rfl
  intro a3 x3 H
  refine hK _ _ ?_
  refine wp_seq_k fun K hK => ?_
  refine region_ok (res := true) (base := w.heap.size) (Inv := fun w' => w.heap.size < w'.heap.size) (env := env7) (env3 := env8) (n := 9) (n0 := 125) (keep := [0, 1, 2, 3, 4, 5, 6, 7, 8]) (by kernel_rfl) nodeFacts (ext0_ok _ _) (fun _ h => h) inv_mono inv_stored ?chk (Nat.le_refl _) H ?_
  case chk => kernel_rfl
  intro a4 x4 H
  refine hK _ _ ?_
  refine wp_seq_k fun K hK => ?_
  refine region_ok (res := true) (base := w.heap.size) (Inv := fun w' => w.heap.size < w'.heap.size) (env := env8) (env3 := env9) (n := 14) (n0 := 125) (keep := [0, 1, 2, 3, 4, 5, 6, 7, 8, 9]) (by kernel_rfl) nodeFacts (ext0_ok _ _) (fun _ h => h) inv_mono inv_stored ?chk (Nat.le_refl _) H ?_
  case chk => kernel_rfl
  intro a5 x5 H
  refine hK _ _ ?_
  refine wp_seq_k fun K hK => ?_
  refine region_ok (res := true) (base := w.heap.size) (Inv := fun w' => w.heap.size < w'.heap.size) (env := env9) (env3 := env10) (n := 8) (n0 := 125) (keep := [0, 1, 2, 3, 4, 5, 6, 7, 8, 9, 10]) (by kernel_rfl) nodeFacts (ext0_ok _ _) (fun _ h => h) inv_mono inv_stored ?chk (Nat.le_refl _) H ?_
  case chk => kernel_rfl
  intro a6 x6 H
  refine hK _ _ ?_
  refine wp_seq_k fun K hK => ?_
  refine region_ok (res := true) (base := w.heap.size) (Inv := fun w' => w.heap.size < w'.heap.size) (env := env10) (env3 := env11) (n := 10) (n0 := 125) (keep := [0, 1, 2, 3, 4, 5, 6, 7, 8, 9, 10, 11]) (by kernel_rfl) nodeFacts (ext0_ok _ _) (fun _ h => h) inv_mono inv_stored ?chk (Nat.le_refl _) H ?_
  case chk => kernel_rfl
  intro a7 x7 H
  refine hK _ _ ?_
  refine wp_seq_k fun K hK => ?_
  refine region_ok (res := true) (base := w.heap.size) (Inv := fun w' => w.heap.size < w'.heap.size) (env := env11) (env3 := envF) (n := 47) (n0 := 125) (keep := [0]) (by kernel_rfl) nodeFacts (ext0_ok _ _) (fun _ h => h) inv_mono inv_stored ?chk (Nat.le_refl _) H ?_
  case chk => kernel_rfl
  intro a8 x8 H
  refine hK _ _ ?_
  exact ret_tree H Tryd.results29
end Go.Proofs.YtldedhfbpongmaaDoor
namespace NodT
open Go
def tInt : Nd := (T5 7 ⟨#[105, 110, 116]⟩ [])
def tFn : Nd := (T5 4 ⟨#[102]⟩ [(T5 5 ⟨#[]⟩ [(T5 3 ⟨#[112]⟩ [tInt]), (T5 3 ⟨#[113]⟩ [(T5 8 ⟨#[]⟩ [tInt])])]), (T5 6 ⟨#[]⟩ [tInt, tInt]), tFull])
def tFile : Nd := (T5 1 ⟨#[109, 97, 105, 110]⟩ [(T5 2 ⟨#[84]⟩ [(T5 3 ⟨#[97]⟩ [tInt])]), tFn, (T5 2 ⟨#[69]⟩ []), (T5 4 ⟨#[103]⟩ [(T5 5 ⟨#[]⟩ []), (T5 6 ⟨#[]⟩ []), (T5 9 ⟨#[]⟩ [])])])
def envf1 : List (Nat × Sh) := [(0, .res), (1, .var tInt)]
def envf2 : List (Nat × Sh) := [(0, .res), (1, .var tInt), (2, .var tFn)]
def envf3 : List (Nat × Sh) := [(0, .var tFile)]
end NodT
namespace Go.Proofs.YtldedhfbpongmaaDoor
open Go.Instr Go.RowKit NodT ShapeR
set_option linter.unusedVariables false
def ext1 (f : FuncId) (shs : List Sh) : Option Sh := if f = 29 then match shs with | [] => some (.tree tFull) | _ => none else ext0 f shs
theorem ext1_ok (base : Nat) (Inv : World → Prop) : ExtOK Tryd.prog 25 base Inv ext1 := by
  intro f shs s h
  unfold ext1 at h
  split at h
  · rename_i hf
    subst hf
    refine ⟨enters_of Tryd.func29 (by kernel_rfl) rfl, fun vs w hd _ => ?_⟩
    split at h
    · injection h with h
      subst h
      obtain rfl := denAll_nil hd
      refine (full_any w).mono ?_
      rintro e w' ⟨t, rfl, ht, hin, hb⟩
      exact ⟨_, rfl, ⟨t, rfl, ht, hin⟩, hb⟩
    · cases h
  · exact ext0_ok base Inv f shs s h
theorem file_start (w w1 : World) (hb1 : Below (w.alloc (.cells #[.int .u8 0, .string ⟨#[]⟩, .int .i64 0, .int .i64 0, .slice none 0 0] 25)).heap.size (w.alloc (.cells #[.int .u8 0, .string ⟨#[]⟩, .int .i64 0, .int .i64 0, .slice none 0 0] 25)) w1)
    (a : Act) (ha : a.tmps.size = 35) (hd : a.defers = []) (h0 : a.tmps[0]? = some (.pointer (some ⟨w.heap.size, 0, none⟩))) (h1 : a.tmps[1]? = some (.pointer (some ⟨w1.heap.size, 0, none⟩))) :
    At (Den 25 w.heap.size) (fun w' => w.heap.size < w'.heap.size) envf1 35 [] w.heap.size w a (w1.alloc (.cells #[.int .u8 7, .string ⟨#[105, 110, 116]⟩, .int .i64 0, .int .i64 0, .slice none 0 0] 25)) := by
  have hs0 : (w.alloc (.cells #[.int .u8 0, .string ⟨#[]⟩, .int .i64 0, .int .i64 0, .slice none 0 0] 25)).heap.size = w.heap.size + 1 := by simp
  have z1 := hb1.size
  rw [hs0] at z1
  have b0 : Below w.heap.size w (w.alloc (.cells #[.int .u8 0, .string ⟨#[]⟩, .int .i64 0, .int .i64 0, .slice none 0 0] 25)) := (Below.refl _ _).alloc (Nat.le_refl _) _
  have hf : Below w1.heap.size w1 (w1.alloc (.cells #[.int .u8 7, .string ⟨#[105, 110, 116]⟩, .int .i64 0, .int .i64 0, .slice none 0 0] 25)) := (Below.refl _ _).alloc (Nat.le_refl _) _
  have hbase : (w1.alloc (.cells #[.int .u8 7, .string ⟨#[105, 110, 116]⟩, .int .i64 0, .int .i64 0, .slice none 0 0] 25)).heap[w.heap.size]? = some (.cells zero5 25) := by
    rw [hf.block _ (by omega), hb1.block _ (by rw [hs0]; omega)]
    exact heap_alloc_new _ _
  refine ⟨by have := hf.size; omega, ha, hd, ?_, b0.trans ((hb1.mono (by rw [hs0]; omega)).trans (hf.mono (by omega)))⟩
  intro p hp
  simp only [envf1, List.mem_cons, List.not_mem_nil, or_false] at hp
  rcases hp with rfl | rfl
  · exact ⟨_, h0, rfl, hbase⟩
  · exact ⟨_, h1, _, .mk 7 ⟨#[105, 110, 116]⟩ 0 0 none 0 [], rfl, by omega, heap_alloc_new _ _, rfl, leaf_in _ _ _ _ (by decide) (by decide)⟩
set_option maxHeartbeats 4000000 in
theorem file_any (w : World) : Calls Tryd.prog 17 #[] w (TreePost tFile w) := by
  go_enter Tryd.func17, Tryd.ntmps17
  go_wp2_with fail
  refine (lawof_any _ _ _ _ _ _).mono ?_
  rintro e w1 ⟨rfl, hb1⟩
  go_wp2_with fail
  rename_i K hK
  refine region_ok (res := true) (base := w.heap.size) (Inv := fun w' => w.heap.size < w'.heap.size) (env := envf1) (env3 := envf2) (n := 18) (n0 := 35) (keep := [0, 1, 2]) (by kernel_rfl) nodeFacts (ext1_ok _ _) (fun _ h => h) inv_mono inv_stored ?chk (Nat.le_refl _) (file_start w w1 hb1 _ rfl rfl rfl rfl) ?_
  case chk => kernel_rfl
  intro a0 x0 H
  refine hK _ _ ?_
  refine wp_seq_k fun K hK => ?_
  refine region_ok (res := true) (base := w.heap.size) (Inv := fun w' => w.heap.size < w'.heap.size) (env := envf2) (env3 := envf3) (n := 14) (n0 := 35) (keep := [0]) (by kernel_rfl) nodeFacts (ext1_ok _ _) (fun _ h => h) inv_mono inv_stored ?chk (Nat.le_refl _) H ?_
  case chk => kernel_rfl
  intro a1 x1 H
  refine hK _ _ ?_
  exact ret_tree H Tryd.results17
end Go.Proofs.YtldedhfbpongmaaDoor
