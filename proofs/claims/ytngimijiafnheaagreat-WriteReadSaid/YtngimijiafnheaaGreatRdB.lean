/- Values whose parts lie in rows of memory, rows within rows. -/
import Derived.Test.YtngimijiafnheaaGreatLexH
set_option maxRecDepth 100000
namespace LexT
open Go Go.RowKit
set_option linter.unusedVariables false
/-- A cell: plain, or a row of such cells, so many to an element. -/
inductive Cell | p (v : Value) | row (T : TypeId) (k : Nat) (cs : List Cell)
def ownL (v : Value) : List Nat := match v.ownBlock with | some g => [g] | none => []
mutual
/-- A value is what a cell says; its rows lie in these blocks. -/
def At (w : World) : Cell → List Nat → Value → Prop
  | .p x, S, v => v = x ∧ S = []
  | .row T k cs, S, v => ∃ n xs S', cs.length = n * k ∧ w.ownsRow 0 T k v n xs ∧ S = ownL v ++ S' ∧ AtL w cs S' xs
def AtL (w : World) : List Cell → List Nat → List Value → Prop
  | [], S, xs => S = [] ∧ xs = []
  | c :: cs, S, xs => ∃ S1 S2 x xs', S = S1 ++ S2 ∧ xs = x :: xs' ∧ At w c S1 x ∧ AtL w cs S2 xs'
end
theorem mem_ownL {v : Value} {g : Nat} : g ∈ ownL v ↔ v.ownBlock = some g := by
  unfold ownL
  cases v.ownBlock <;> simp [eq_comm]
theorem own_same {w w' : World} {base : Nat} {T : TypeId} {k : Nat} {v : Value} {n : Nat} {xs : List Value} (h : w.ownsRow base T k v n xs) (hs : ∀ g ∈ ownL v, w'.heap[g]? = w.heap[g]?) : w'.ownsRow base T k v n xs := by
  refine ⟨h.1, ?_⟩
  rcases h.2 with hn | ⟨g, cap, cur, rfl, hb, hg, rest⟩
  · exact .inl hn
  · exact .inr ⟨g, cap, cur, rfl, hb, (hs g (by simp [mem_ownL, Value.ownBlock])).trans hg, rest⟩
theorem own_zero {w : World} {base : Nat} {T : TypeId} {k : Nat} {v : Value} {n : Nat} {xs : List Value} (h : w.ownsRow base T k v n xs) : w.ownsRow 0 T k v n xs :=
  ⟨h.1, h.2.imp id fun ⟨g, cap, cur, a, _, c⟩ => ⟨g, cap, cur, a, Nat.zero_le _, c⟩⟩
mutual
theorem At.same {w w' : World} : ∀ (c : Cell) (S : List Nat) (v : Value), At w c S v → (∀ g ∈ S, w'.heap[g]? = w.heap[g]?) → At w' c S v
  | .p x, S, v, h, _ => by unfold At at h ⊢; exact h
  | .row T k cs, S, v, h, hs => by
    unfold At at h ⊢
    obtain ⟨n, xs, S', h1, h2, rfl, h4⟩ := h
    exact ⟨n, xs, S', h1, own_same h2 (fun g hg => hs g (List.mem_append_left _ hg)), rfl, AtL.same cs S' xs h4 (fun g hg => hs g (List.mem_append_right _ hg))⟩
theorem AtL.same {w w' : World} : ∀ (cs : List Cell) (S : List Nat) (xs : List Value), AtL w cs S xs → (∀ g ∈ S, w'.heap[g]? = w.heap[g]?) → AtL w' cs S xs
  | [], S, xs, h, _ => by unfold AtL at h ⊢; exact h
  | c :: cs, S, xs, h, hs => by
    unfold AtL at h ⊢
    obtain ⟨S1, S2, x, xs', rfl, rfl, h3, h4⟩ := h
    exact ⟨S1, S2, x, xs', rfl, rfl, At.same c S1 x h3 (fun g hg => hs g (List.mem_append_left _ hg)), AtL.same cs S2 xs' h4 (fun g hg => hs g (List.mem_append_right _ hg))⟩
end
mutual
theorem At.lt {w : World} : ∀ (c : Cell) (S : List Nat) (v : Value), At w c S v → ∀ g ∈ S, g < w.heap.size
  | .p x, S, v, h => by unfold At at h; obtain ⟨_, rfl⟩ := h; simp
  | .row T k cs, S, v, h => by
    unfold At at h
    obtain ⟨n, xs, S', h1, h2, rfl, h4⟩ := h
    intro g hg
    rcases List.mem_append.1 hg with hg | hg
    · exact (h2.lt g (mem_ownL.1 hg)).2
    · exact AtL.lt cs S' xs h4 g hg
theorem AtL.lt {w : World} : ∀ (cs : List Cell) (S : List Nat) (xs : List Value), AtL w cs S xs → ∀ g ∈ S, g < w.heap.size
  | [], S, xs, h => by unfold AtL at h; obtain ⟨rfl, _⟩ := h; simp
  | c :: cs, S, xs, h => by
    unfold AtL at h
    obtain ⟨S1, S2, x, xs', rfl, rfl, h3, h4⟩ := h
    intro g hg
    rcases List.mem_append.1 hg with hg | hg
    · exact At.lt c S1 x h3 g hg
    · exact AtL.lt cs S2 xs' h4 g hg
end
theorem AtL.length {w : World} : ∀ (cs : List Cell) (S : List Nat) (xs : List Value), AtL w cs S xs → xs.length = cs.length
  | [], S, xs, h => by unfold AtL at h; obtain ⟨_, rfl⟩ := h; rfl
  | c :: cs, S, xs, h => by
    unfold AtL at h
    obtain ⟨S1, S2, x, xs', rfl, rfl, h3, h4⟩ := h
    simp [AtL.length cs S2 xs' h4]
theorem AtL.append {w : World} : ∀ (cs ds : List Cell) (S S' : List Nat) (xs ys : List Value), AtL w cs S xs → AtL w ds S' ys → AtL w (cs ++ ds) (S ++ S') (xs ++ ys)
  | [], ds, S, S', xs, ys, h, h' => by unfold AtL at h; obtain ⟨rfl, rfl⟩ := h; simpa using h'
  | c :: cs, ds, S, S', xs, ys, h, h' => by
    unfold AtL at h
    obtain ⟨S1, S2, x, xs', rfl, rfl, h3, h4⟩ := h
    show AtL w (c :: (cs ++ ds)) _ _
    unfold AtL
    exact ⟨S1, S2 ++ S', x, xs' ++ ys, by simp, by simp, h3, AtL.append cs ds S2 S' xs' ys h4 h'⟩
theorem At.plain (w : World) (x : Value) : At w (.p x) [] x := by unfold At; exact ⟨rfl, rfl⟩
theorem AtL.nil (w : World) : AtL w [] [] [] := by unfold AtL; exact ⟨rfl, rfl⟩
theorem AtL.cons {w : World} {c : Cell} {cs : List Cell} {S S' : List Nat} {x : Value} {xs : List Value} (h : At w c S x) (h' : AtL w cs S' xs) : AtL w (c :: cs) (S ++ S') (x :: xs) := by
  unfold AtL
  exact ⟨S, S', x, xs, rfl, rfl, h, h'⟩
theorem AtL.plainCons {w : World} {v : Value} {cs : List Cell} {S' : List Nat} {xs : List Value} (h' : AtL w cs S' xs) : AtL w (.p v :: cs) S' (v :: xs) := by
  simpa using AtL.cons (At.plain w v) h'
theorem At.empty (w : World) (T : TypeId) (k : Nat) : At w (.row T k []) [] (.slice none 0 0) := by
  unfold At
  exact ⟨0, [], [], by simp, World.ownsRow_nil w 0 T k, by simp [ownL, Value.ownBlock], AtL.nil w⟩
/-- A row behind an append. -/
theorem At.push {w w' W : World} {T : TypeId} {k : Nat} {cs ds : List Cell} {S Sd : List Nat} {v v' : Value} {n m base : Nat} {xs news : List Value} (hn : cs.length = n * k)
    (h : ∃ S', w.ownsRow 0 T k v n xs ∧ S = ownL v ++ S' ∧ AtL w cs S' xs) (hd : AtL w ds Sd news) (hm : ds.length = m * k) (hnd : (S ++ Sd).Nodup)
    (ho : w'.ownsRow base T k v' (n + m) (xs ++ news)) (hg : w.grownBy w' v.ownBlock) (hnew : ∀ g, v'.ownBlock = some g → v.ownBlock = some g ∨ w.heap.size ≤ g) :
    ∃ S2, At w' (.row T k (cs ++ ds)) S2 v' ∧ S2.Nodup ∧ ∀ g ∈ S2, g ∈ S ∨ g ∈ Sd ∨ w.heap.size ≤ g := by
  obtain ⟨S', h1, rfl, h3⟩ := h
  have hlt := AtL.lt cs S' xs h3
  have hltd := AtL.lt ds Sd news hd
  have hsm : ∀ g, g ∈ S' ∨ g ∈ Sd → w'.heap[g]? = w.heap[g]? := by
    intro g hgm
    refine hg.block g (by rcases hgm with hgm | hgm; exact hlt g hgm; exact hltd g hgm) (fun hh => ?_)
    have hin : g ∈ ownL v := mem_ownL.2 hh.symm
    rw [List.append_assoc, List.nodup_append] at hnd
    exact hnd.2.2 g hin g (List.mem_append.2 hgm) rfl
  have h3' := AtL.same cs S' xs h3 (fun g hgm => hsm g (.inl hgm))
  have hd' := AtL.same ds Sd news hd (fun g hgm => hsm g (.inr hgm))
  refine ⟨ownL v' ++ (S' ++ Sd), ?_, ?_, ?_⟩
  · unfold At
    exact ⟨n + m, xs ++ news, S' ++ Sd, by simp [hn, hm, Nat.add_mul], own_zero ho, rfl, AtL.append _ _ _ _ _ _ h3' hd'⟩
  · rw [List.append_assoc] at hnd
    rw [List.nodup_append] at hnd ⊢
    refine ⟨by unfold ownL; cases v'.ownBlock <;> simp, hnd.2.1, ?_⟩
    intro a ha b hb hab
    subst hab
    rcases hnew a (mem_ownL.1 ha) with he | he
    · exact hnd.2.2 a (mem_ownL.2 he) a hb rfl
    · have : a < w.heap.size := by rcases List.mem_append.1 hb with hb | hb; exact hlt a hb; exact hltd a hb
      omega
  · intro g hgm
    rcases List.mem_append.1 hgm with hgm | hgm
    · rcases hnew g (mem_ownL.1 hgm) with he | he
      · exact .inl (List.mem_append_left _ (mem_ownL.2 he))
      · exact .inr (.inr he)
    · rcases List.mem_append.1 hgm with hgm | hgm
      · exact .inl (List.mem_append_right _ hgm)
      · exact .inr (.inl hgm)
end LexT
