/- What several texts use: cells of two, four, six; what types are. -/
import Derived.Test.YtngimijiafnheaaGreatRdIa
set_option maxRecDepth 100000
set_option linter.unusedSimpArgs false
namespace LexT
open Go Go.RowKit
set_option linter.unusedVariables false
def two (w : World) (p : Nat) (a0 a1 : Value) : World := (w.setCell ⟨p, 0, none⟩ a0).setCell ⟨p, 1, none⟩ a1
theorem two_facts {w : World} {p : Nat} {a0 a1 : Value} {T : TypeId} (h : w.heap[p]? = some (.cells #[a0, a1] T (0, 0))) :
    (w.cell? ⟨p, 0, none⟩ = some a0 ∧ w.cell? ⟨p, 1, none⟩ = some a1) ∧ (w.frozen? ⟨p, 0, none⟩ = false ∧ w.frozen? ⟨p, 1, none⟩ = false) := by
  refine ⟨⟨?_, ?_⟩, ?_, ?_⟩ <;> simp [World.cell?, World.frozen?, h]
theorem two_low (B : Nat) (w : World) (p : Nat) (a0 a1 : Value) (hp : B ≤ p) : Below B w (two w p a0 a1) := ((Below.refl B w).setCell (p := ⟨p, 0, none⟩) hp a0).setCell (p := ⟨p, 1, none⟩) hp a1
theorem two_same (w : World) (p : Nat) (a0 a1 : Value) (g : Nat) (h : g ≠ p) : (two w p a0 a1).heap[g]? = w.heap[g]? := by
  unfold two
  rw [Below.heap_setCell _ _ _ _ h, Below.heap_setCell _ _ _ _ h]
def four (w : World) (p : Nat) (a0 a1 a2 a3 : Value) : World := (((w.setCell ⟨p, 0, none⟩ a0).setCell ⟨p, 1, none⟩ a1).setCell ⟨p, 2, none⟩ a2).setCell ⟨p, 3, none⟩ a3
theorem four_facts {w : World} {p : Nat} {a0 a1 a2 a3 : Value} {T : TypeId} (h : w.heap[p]? = some (.cells #[a0, a1, a2, a3] T (0, 0))) :
    (w.cell? ⟨p, 0, none⟩ = some a0 ∧ w.cell? ⟨p, 1, none⟩ = some a1 ∧ w.cell? ⟨p, 2, none⟩ = some a2 ∧ w.cell? ⟨p, 3, none⟩ = some a3) ∧
    (w.frozen? ⟨p, 0, none⟩ = false ∧ w.frozen? ⟨p, 1, none⟩ = false ∧ w.frozen? ⟨p, 2, none⟩ = false ∧ w.frozen? ⟨p, 3, none⟩ = false) := by
  refine ⟨⟨?_, ?_, ?_, ?_⟩, ?_, ?_, ?_, ?_⟩ <;> simp [World.cell?, World.frozen?, h]
theorem four_low (B : Nat) (w : World) (p : Nat) (a0 a1 a2 a3 : Value) (hp : B ≤ p) : Below B w (four w p a0 a1 a2 a3) :=
  ((((Below.refl B w).setCell (p := ⟨p, 0, none⟩) hp a0).setCell (p := ⟨p, 1, none⟩) hp a1).setCell (p := ⟨p, 2, none⟩) hp a2).setCell (p := ⟨p, 3, none⟩) hp a3
theorem four_same (w : World) (p : Nat) (a0 a1 a2 a3 : Value) (g : Nat) (h : g ≠ p) : (four w p a0 a1 a2 a3).heap[g]? = w.heap[g]? := by
  unfold four
  rw [Below.heap_setCell _ _ _ _ h, Below.heap_setCell _ _ _ _ h, Below.heap_setCell _ _ _ _ h, Below.heap_setCell _ _ _ _ h]
def six (w : World) (p : Nat) (a0 a1 a2 a3 a4 a5 : Value) : World := (((((w.setCell ⟨p, 0, none⟩ a0).setCell ⟨p, 1, none⟩ a1).setCell ⟨p, 2, none⟩ a2).setCell ⟨p, 3, none⟩ a3).setCell ⟨p, 4, none⟩ a4).setCell ⟨p, 5, none⟩ a5
theorem six_facts {w : World} {p : Nat} {a0 a1 a2 a3 a4 a5 : Value} {T : TypeId} (h : w.heap[p]? = some (.cells #[a0, a1, a2, a3, a4, a5] T (0, 0))) :
    (w.cell? ⟨p, 0, none⟩ = some a0 ∧ w.cell? ⟨p, 1, none⟩ = some a1 ∧ w.cell? ⟨p, 2, none⟩ = some a2 ∧ w.cell? ⟨p, 3, none⟩ = some a3 ∧ w.cell? ⟨p, 4, none⟩ = some a4 ∧ w.cell? ⟨p, 5, none⟩ = some a5) ∧
    (w.frozen? ⟨p, 0, none⟩ = false ∧ w.frozen? ⟨p, 1, none⟩ = false ∧ w.frozen? ⟨p, 2, none⟩ = false ∧ w.frozen? ⟨p, 3, none⟩ = false ∧ w.frozen? ⟨p, 4, none⟩ = false ∧ w.frozen? ⟨p, 5, none⟩ = false) := by
  refine ⟨⟨?_, ?_, ?_, ?_, ?_, ?_⟩, ?_, ?_, ?_, ?_, ?_, ?_⟩ <;> simp [World.cell?, World.frozen?, h]
theorem six_low (B : Nat) (w : World) (p : Nat) (a0 a1 a2 a3 a4 a5 : Value) (hp : B ≤ p) : Below B w (six w p a0 a1 a2 a3 a4 a5) :=
  ((((((Below.refl B w).setCell (p := ⟨p, 0, none⟩) hp a0).setCell (p := ⟨p, 1, none⟩) hp a1).setCell (p := ⟨p, 2, none⟩) hp a2).setCell (p := ⟨p, 3, none⟩) hp a3).setCell (p := ⟨p, 4, none⟩) hp a4).setCell (p := ⟨p, 5, none⟩) hp a5
theorem six_same (w : World) (p : Nat) (a0 a1 a2 a3 a4 a5 : Value) (g : Nat) (h : g ≠ p) : (six w p a0 a1 a2 a3 a4 a5).heap[g]? = w.heap[g]? := by
  unfold six
  rw [Below.heap_setCell _ _ _ _ h, Below.heap_setCell _ _ _ _ h, Below.heap_setCell _ _ _ _ h, Below.heap_setCell _ _ _ _ h, Below.heap_setCell _ _ _ _ h, Below.heap_setCell _ _ _ _ h]
theorem three_same (w : World) (p : Nat) (x y z : Value) (g : Nat) (h : g ≠ p) : (((w.setCell ⟨p, 0, none⟩ x).setCell ⟨p, 1, none⟩ y).setCell ⟨p, 2, none⟩ z).heap[g]? = w.heap[g]? := by
  rw [Below.heap_setCell _ _ _ _ h, Below.heap_setCell _ _ _ _ h, Below.heap_setCell _ _ _ _ h]
theorem At.slice {w : World} {T : TypeId} {k : Nat} {cs : List Cell} {S : List Nat} {v : Value} (h : At w (.row T k cs) S v) : ∃ ao cn cc, v = .slice ao cn cc := by
  unfold At at h
  obtain ⟨nn, xs, S', _, ho9, _⟩ := h
  obtain ⟨ao, cc, rfl⟩ := own_form ho9
  exact ⟨ao, nn, cc, rfl⟩
theorem alloc2 (w : World) (o1 o2 : Obj) : (((w.alloc o1).alloc o2).heap[w.heap.size]? = some o1 ∧ ((w.alloc o1).alloc o2).heap[w.heap.size + 1]? = some o2) ∧ Below w.heap.size w ((w.alloc o1).alloc o2) ∧ ((w.alloc o1).alloc o2).heap.size = w.heap.size + 2 := by
  have h1 : (w.alloc o1).heap.size = w.heap.size + 1 := by simp
  refine ⟨⟨?_, ?_⟩, ((Below.refl _ _).alloc (Nat.le_refl _) _).alloc (by omega) _, by simp⟩
  · rw [heap_alloc_old _ _ (by omega)]; exact heap_alloc_new w o1
  · have := heap_alloc_new (w.alloc o1) o2
    rwa [h1] at this
end LexT
namespace Go.Proofs.YtngimijiafnheaaGreat
open Go.Instr Go.RowKit LexT
set_option linter.unusedVariables false
theorem Tryz.infoWordB : (Tryz.prog.info? 50).map (fun i => (i.zero, i.size, i.bytes)) = some (some (.agg #[.string ⟨#[]⟩, .slice none 0 0, .int .i64 0]), 3, 48) := by kernel_rfl
theorem Tryz.infoAlt : (Tryz.prog.info? 47).map (fun i => (i.zero, i.size, i.bytes)) = some (some (.agg #[.slice none 0 0, .string ⟨#[]⟩, .bool false, .string ⟨#[]⟩, .int .i64 0, .int .i64 0]), 6, 80) := by kernel_rfl
theorem Tryz.infoDecl : (Tryz.prog.info? 41).map (fun i => (i.zero, i.size, i.bytes)) = some (some (.agg #[.string ⟨#[]⟩, .string ⟨#[]⟩, .slice none 0 0, .int .i64 0]), 4, 64) := by kernel_rfl
theorem Tryz.infoRule : (Tryz.prog.info? 44).map (fun i => (i.zero, i.size, i.bytes)) = some (some (.agg #[.string ⟨#[]⟩, .slice none 0 0, .slice none 0 0, .int .i64 0]), 4, 72) := by kernel_rfl
theorem altAt {w : World} {a : Al} {S : List Nat} {xs : List Value} (h : AtL w (altC a) S xs) : ∃ (ao : Option Addr) (n c : Nat), xs = [.slice ao n c, .string (mkS a.prec), .bool a.has, .string (mkS a.action), .int .i64 (IntKind.i64.wrap (a.where_ : Int)), .int .i64 (a.at_ : Int)] := by
  unfold altC strC at h
  unfold AtL at h
  obtain ⟨S1, S2, x1, xs1, rfl, rfl, h1, h⟩ := h
  unfold AtL at h
  obtain ⟨S3, S4, x2, xs2, rfl, rfl, h2, h⟩ := h
  unfold AtL at h
  obtain ⟨S5, S6, x3, xs3, rfl, rfl, h3, h⟩ := h
  unfold AtL at h
  obtain ⟨S7, S8, x4, xs4, rfl, rfl, h4, h⟩ := h
  unfold AtL at h
  obtain ⟨S9, S10, x5, xs5, rfl, rfl, h5, h⟩ := h
  unfold AtL at h
  obtain ⟨S11, S12, x6, xs6, rfl, rfl, h6, h⟩ := h
  unfold AtL at h
  obtain ⟨rfl, rfl⟩ := h
  unfold At at h1 h2 h3 h4 h5 h6
  obtain ⟨rfl, _⟩ := h2
  obtain ⟨rfl, _⟩ := h3
  obtain ⟨rfl, _⟩ := h4
  obtain ⟨rfl, _⟩ := h5
  obtain ⟨rfl, _⟩ := h6
  obtain ⟨nn, ys, S', _, a2, _⟩ := h1
  obtain ⟨ao, cc, rfl⟩ := own_form a2
  exact ⟨ao, nn, cc, rfl⟩
theorem declAt {w : World} {a : De} {S : List Nat} {xs : List Value} (h : AtL w (declC a) S xs) : ∃ (ao : Option Addr) (n c : Nat), xs = [.string (mkS a.kind), .string (mkS a.type), .slice ao n c, .int .i64 (a.at_ : Int)] := by
  unfold declC strC at h
  unfold AtL at h
  obtain ⟨S1, S2, x1, xs1, rfl, rfl, h1, h⟩ := h
  unfold AtL at h
  obtain ⟨S3, S4, x2, xs2, rfl, rfl, h2, h⟩ := h
  unfold AtL at h
  obtain ⟨S5, S6, x3, xs3, rfl, rfl, h3, h⟩ := h
  unfold AtL at h
  obtain ⟨S7, S8, x4, xs4, rfl, rfl, h4, h⟩ := h
  unfold AtL at h
  obtain ⟨rfl, rfl⟩ := h
  obtain ⟨ao, cn, cc, rfl⟩ := h3.slice
  unfold At at h1 h2 h4
  obtain ⟨rfl, _⟩ := h1
  obtain ⟨rfl, _⟩ := h2
  obtain ⟨rfl, _⟩ := h4
  exact ⟨ao, cn, cc, rfl⟩
theorem ruleAt {w : World} {a : Ru} {S : List Nat} {xs : List Value} (h : AtL w (ruleC a) S xs) : ∃ (ao : Option Addr) (n c : Nat) (ao2 : Option Addr) (n2 c2 : Nat), xs = [.string (mkS a.name), .slice ao n c, .slice ao2 n2 c2, .int .i64 (a.at_ : Int)] := by
  unfold ruleC strC at h
  unfold AtL at h
  obtain ⟨S1, S2, x1, xs1, rfl, rfl, h1, h⟩ := h
  unfold AtL at h
  obtain ⟨S3, S4, x2, xs2, rfl, rfl, h2, h⟩ := h
  unfold AtL at h
  obtain ⟨S5, S6, x3, xs3, rfl, rfl, h3, h⟩ := h
  unfold AtL at h
  obtain ⟨S7, S8, x4, xs4, rfl, rfl, h4, h⟩ := h
  unfold AtL at h
  obtain ⟨rfl, rfl⟩ := h
  obtain ⟨ao, cn, cc, rfl⟩ := h2.slice
  obtain ⟨ao2, cn2, cc2, rfl⟩ := h3.slice
  unfold At at h1 h4
  obtain ⟨rfl, _⟩ := h1
  obtain ⟨rfl, _⟩ := h4
  exact ⟨ao, cn, cc, ao2, cn2, cc2, rfl⟩
end Go.Proofs.YtngimijiafnheaaGreat
