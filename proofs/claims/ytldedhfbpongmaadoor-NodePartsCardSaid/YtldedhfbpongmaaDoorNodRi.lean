/- The law's awake: true. -/
import Derived.Test.YtldedhfbpongmaaDoorNodRe
import Derived.Test.YtldedhfbpongmaaDoorNodRh
set_option maxRecDepth 100000
namespace NodT
open Go Go.RowKit ShapeR
set_option linter.unusedVariables false
def tDol : Nd := (N5 12 1 [(N5 35 0 []), (T5 27 ⟨#[43]⟩ [(N5 35 1 []), (T5 21 ⟨#[50]⟩ [])])])
def tIn : Nd := (T5 1 ⟨#[109, 97, 105, 110]⟩ [(T5 4 ⟨#[102]⟩ [(T5 5 ⟨#[]⟩ []), (T5 6 ⟨#[]⟩ []), (T5 9 ⟨#[]⟩ [tDol])])])
def tBad : Nd := (N5 12 1 [(T5 28 ⟨#[102]⟩ []), (T5 21 ⟨#[50]⟩ [])])
def enva1 : List (Nat × Sh) := [(1, .var tDol)]
def enva2 : List (Nat × Sh) := [(1, .var tDol), (2, .var tIn)]
def enva3 : List (Nat × Sh) := [(1, .var tDol), (2, .var tIn), (3, .var tBad)]
/-- What a region's last operation, an assignment, comes to. -/
def valueB (tn ts : TypeId) (ext : FuncId → List Sh → Option Sh) (ops : Array Oper) (env : List (Nat × Sh)) (n0 n : Nat) (d : Nat) : Option Sh :=
  if apartB ops env n0 && ops.size == n + 1 then
    match symL false tn ts ext ops env n, ops[n]? with
    | some shs, some st => match st.guard, st.op with
      | none, .assign x => if st.dst = some d then symArg (env ++ availOf ops shs (List.range n)) x else none
      | _, _ => none
    | _, _ => none
  else none
theorem region_value {P : Program} {tn ts : TypeId} {base : Nat} {Inv : World → Prop} {ext : FuncId → List Sh → Option Sh}
    (hF : NodeFacts P tn ts) (hE : ExtOK P tn base Inv ext) (hbase : ∀ w, Inv w → base < w.heap.size) (hinvm : ∀ w w', Inv w → Below w.heap.size w w' → Inv w')
    {id n n0 B d : Nat} {ops : Array Oper} {env : List (Nat × Sh)} {df : List Deferred} {v : Value}
    (hchk : valueB tn ts ext ops env n0 n d = some (.lit v)) {w0 : World} {a : Act} {w : World} (hB : B ≤ base + 1) {Q : Exit → Act → World → Prop} (h0 : At (Den tn base) Inv env n0 df B w0 a w)
    (hQ : ∀ a' w', a'.tmps.size = n0 → a'.tmps[d]? = some v → a'.defers = df → Below B w0 w' → Q .normal a' w') : (Code.region id ops false).wp P Q a w := by
  unfold valueB at hchk
  split at hchk
  · rename_i hb
    simp only [Bool.and_eq_true, beq_iff_eq] at hb
    obtain ⟨hap, hn⟩ := hb
    split at hchk
    · rename_i shs st hL ho
      split at hchk
      · rename_i x hg hop
        split at hchk
        · rename_i hd
          obtain ⟨hlen, hall⟩ := symL_ok hL
          have hap' := apartB_ok hap
          have hc0 : Came (Den tn base) Inv env n0 df w a w := ⟨h0.inv, h0.size, h0.defers, h0.has, Below.refl _ _⟩
          have hBw : B ≤ w.heap.size := by have := hbase w h0.inv; omega
          refine wp_lex (Den.mono tn base) hap' hn hlen (fun i o s hoi hsi => ?_) hc0 ?_
          · obtain ⟨env', he, hs⟩ := hall i o s hoi hsi
            exact OpOK.more' (symOp_ok hbase hF hE hinvm hs) (by simpa using he)
          · intro a' w' hc
            refine wpOp_of ho ?_
            rw [show Region.wanted st (yielded ops a'.tmps) = true by unfold Region.wanted; rw [hg], if_pos rfl]
            have hv : a'.eval x = v := symArg_den hc.has hchk
            unfold Oper.wp
            simp only [execOp, hop, Sem.run_pure, Oper.upon_value, hv, hd]
            refine hQ _ _ ((put_size _ _ _).trans hc.size) (put_same _ _ _ ?_) ((put_defers _ _ _).trans hc.defers) (h0.below.trans (hc.below.mono hBw))
            rw [hc.size]
            exact (hap'.low n st d ho hd).1
        · cases hchk
      · cases hchk
    · cases hchk
  · cases hchk
end NodT
namespace Go.Proofs.YtldedhfbpongmaaDoor
open Go.Instr Go.RowKit NodT ShapeR
set_option linter.unusedVariables false
def ext2 (f : FuncId) (shs : List Sh) : Option Sh :=
  if f = 17 then match shs with | [] => some (.tree tFile) | _ => none
  else if f = 13 then match shs with | [.tree T] => if many T ≤ 1000 then some (.lit (.bool (rightB T))) else none | _ => none
  else if f = 10 then match shs with | [.tree T] => if many T ≤ 1000 then some (.lit (.int .i64 (deep T : Nat))) else none | _ => none
  else ext0 f shs
theorem ext2_ok (base : Nat) (Inv : World → Prop) (hI : ∀ w, Inv w → OpsAt 0 w) : ExtOK Tryd.prog 25 base Inv ext2 := by
  intro f shs s h
  unfold ext2 at h
  split at h
  · rename_i hf
    subst hf
    refine ⟨enters_of Tryd.func17 (by kernel_rfl) rfl, fun vs w hd _ => ?_⟩
    split at h
    · injection h with h
      subst h
      obtain rfl := denAll_nil hd
      refine (file_any w).mono ?_
      rintro e w' ⟨t, rfl, ht, hin, hb⟩
      exact ⟨_, rfl, ⟨t, rfl, ht, hin⟩, hb⟩
    · cases h
  · split at h
    · rename_i hf
      subst hf
      refine ⟨enters_of Tryd.func13 (by kernel_rfl) rfl, fun vs w hd hi => ?_⟩
      split at h
      · rename_i T
        split at h
        · rename_i hm
          injection h with h
          subst h
          obtain ⟨v0, vs, rfl, h0, hd⟩ := denAll_cons hd
          obtain rfl := denAll_nil hd
          obtain ⟨t, rfl, rfl, hin⟩ := h0
          rw [many_er] at hm
          refine (Right_any t w _ hin (Nat.le_refl _) (by omega) (hI w hi)).mono ?_
          rintro e w' ⟨rfl, hb⟩
          exact ⟨_, rfl, by rw [rightB_er]; rfl, hb⟩
        · cases h
      · cases h
    · split at h
      · rename_i hf
        subst hf
        refine ⟨enters_of Tryd.func10 (by kernel_rfl) rfl, fun vs w hd hi => ?_⟩
        split at h
        · rename_i T
          split at h
          · rename_i hm
            injection h with h
            subst h
            obtain ⟨v0, vs, rfl, h0, hd⟩ := denAll_cons hd
            obtain rfl := denAll_nil hd
            obtain ⟨t, rfl, rfl, hin⟩ := h0
            rw [many_er] at hm
            refine (Deep_any t w _ hin (Nat.le_refl _) (by omega)).mono ?_
            rintro e w' ⟨rfl, hb⟩
            exact ⟨_, rfl, by rw [deep_er]; rfl, hb⟩
          · cases h
        · cases h
      · exact ext0_ok base Inv f shs s h
set_option maxHeartbeats 4000000 in
theorem awake_any (w : World) (ho : OpsAt 0 w) : Calls Tryd.prog 4 #[] w fun e w' => e = .returned (.bool true) ∧ Below w.heap.size w w' := by
  have h1 : 0 < w.heap.size := Nat.lt_of_le_of_lt (Nat.zero_le _) ho.lt
  obtain ⟨base, hbase⟩ : ∃ b, w.heap.size = b + 1 := ⟨w.heap.size - 1, by omega⟩
  have hg : 0 < base + 1 := by have := ho.lt; omega
  have hI : ∀ w' : World, (base < w'.heap.size ∧ OpsAt 0 w') → OpsAt 0 w' := fun _ h => h.2
  have hb : ∀ w' : World, (base < w'.heap.size ∧ OpsAt 0 w') → base < w'.heap.size := fun _ h => h.1
  have hm : ∀ w1 w2 : World, (base < w1.heap.size ∧ OpsAt 0 w1) → Below w1.heap.size w1 w2 → (base < w2.heap.size ∧ OpsAt 0 w2) := fun w1 w2 h hb => ⟨Nat.lt_of_lt_of_le h.1 hb.size, h.2.under hb⟩
  have hs : ∀ (w1 w2 : World) (g : Nat) (o : Obj), (base < w1.heap.size ∧ OpsAt 0 w1) → lowOf false base ≤ g → Stored w1 w2 g o → (base < w2.heap.size ∧ OpsAt 0 w2) := fun w1 w2 g o h hlo hst =>
    ⟨by rw [hst.size]; exact h.1, h.2.block (hst.else_ _ (by have : base + 1 ≤ g := hlo; omega))⟩
  rw [hbase]
  go_enter Tryd.func4, Tryd.ntmps4
  go_upto_region 1 with fail
  rename_i K hK
  refine region_ok (res := false) (base := base) (B := base + 1) (w0 := w) (Inv := fun w' => base < w'.heap.size ∧ OpsAt 0 w') (env := []) (env3 := enva1) (n := 8) (n0 := 73) (keep := [1]) (by kernel_rfl) nodeFacts (ext2_ok _ _ hI) hb hm hs ?chk (Nat.le_refl _) ⟨⟨by omega, ho⟩, rfl, rfl, fun p h => by (cases h), Below.refl _ _⟩ ?_
  case chk => kernel_rfl
  intro a1 x1 H
  refine hK _ _ ?_
  refine wp_seq_k fun K hK => ?_
  refine region_ok (res := false) (base := base) (B := base + 1) (w0 := w) (Inv := fun w' => base < w'.heap.size ∧ OpsAt 0 w') (env := enva1) (env3 := enva2) (n := 10) (n0 := 73) (keep := [1, 2]) (by kernel_rfl) nodeFacts (ext2_ok _ _ hI) hb hm hs ?chk (Nat.le_refl _) H ?_
  case chk => kernel_rfl
  intro a2 x2 H
  refine hK _ _ ?_
  refine wp_seq_k fun K hK => ?_
  refine region_ok (res := false) (base := base) (B := base + 1) (w0 := w) (Inv := fun w' => base < w'.heap.size ∧ OpsAt 0 w') (env := enva2) (env3 := enva3) (n := 5) (n0 := 73) (keep := [1, 2, 3]) (by kernel_rfl) nodeFacts (ext2_ok _ _ hI) hb hm hs ?chk (Nat.le_refl _) H ?_
  case chk => kernel_rfl
  intro a3 x3 H
  refine hK _ _ ?_
  refine wp_seq_k fun K hK => ?_
  refine region_value (base := base) (B := base + 1) (w0 := w) (Inv := fun w' => base < w'.heap.size ∧ OpsAt 0 w') (env := enva3) (n := 49) (n0 := 73) (d := 0) (v := .bool true) nodeFacts (ext2_ok _ _ hI) hb hm ?chk (Nat.le_refl _) H ?_
  case chk => kernel_rfl
  intro a4 x4 hsz hv hdf hbl
  refine hK _ _ ?_
  refine wp_ret (bodyPost_ret (v := .bool true) (by simp [results, Tryd.results4, hv]) hdf ⟨rfl, hbl⟩)
end Go.Proofs.YtldedhfbpongmaaDoor
