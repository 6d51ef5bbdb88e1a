/- The law's fault; the chapter's examples as data. -/
/- The law's awake. -/
import Derived.Test.YtbgkigdlbiknnaaRdZa
import Derived.Test.YtbgkigdlbiknnaaRdV
import Derived.Laws.StructEq
set_option maxRecDepth 100000
set_option linter.unusedSimpArgs false
namespace LexT
set_option linter.unusedVariables false
def exS : Bs := [37, 116, 111, 107, 101, 110, 32, 60, 105, 110, 116, 62, 32, 78, 59, 32, 37, 37, 32, 108, 40, 88, 41, 58, 32, 88, 32, 124, 32, 108, 40, 88, 41, 32, 78, 32, 37, 112, 114, 101, 99, 32, 78, 32, 123, 32, 36, 36, 32, 61, 32, 36, 50, 32, 125, 59, 32, 115, 58, 32, 59]
def exTx : Tx := ⟨[⟨[116, 111, 107, 101, 110], [105, 110, 116], [[78]], 0⟩],
  [⟨[108], [[88]], [⟨[.mk [88] [] 25], [], false, [], 0, 25⟩, ⟨[.mk [108] [.mk [88] [] 31] 29, .mk [78] [] 34], [78], true, [32, 36, 36, 32, 61, 32, 36, 50, 32], 45, 29⟩], 19⟩,
   ⟨[115], [], [⟨[], [], false, [], 0, 60⟩], 57⟩]⟩
set_option maxRecDepth 100000 in
theorem ex_text : textT exS = .ok exTx := by rfl
set_option maxRecDepth 100000 in
theorem bad_text1 : textT [37, 37, 32, 101, 58, 32, 40, 32, 58] = .error (102, 6) := by rfl
set_option maxRecDepth 100000 in
theorem bad_text2 : textT [37, 108, 101, 102, 116, 32, 60, 105, 110, 116, 62, 32, 80, 59] = .error (102, 6) := by rfl
end LexT
namespace Go.Proofs.Ytbgkigdlbiknnaa
open Go.Instr Go.RowKit LexT
set_option linter.unusedVariables false
set_option maxHeartbeats 1000000 in
theorem fault_t (s : ByteArray) (w : World) (hm : s.size ≤ maxLen) (c q : Nat) (hts : textT s.data.toList = .error (c, q)) :
    Calls Try.prog 14 #[.string s, .int .i64 (c : Int), .int .i64 (q : Int)] w fun e w' => e = .returned (.bool true) ∧ Below w.heap.size w w' := by
  have HT := Lib.hid (Text_any s w hm)
  have HTS := Lib.hid hts
  clear hm hts
  go_enter Try.func14, Try.ntmps14
  go_wp2_with fail
  refine HT.out.mono ?_
  rintro e w1 (⟨x, S, xs, hR, rfl, hat, hnd, hge, hb⟩ | ⟨c', q', hR, rfl, hb⟩)
  · exact absurd (hR.symm.trans HTS.out) (by simp)
  · have he := hR.symm.trans HTS.out
    injection he with he
    injection he with he1 he2
    subst he1 he2
    have HB := Lib.hid hb
    clear hR hb
    go_wp2_with fail
    go_ret
    exact ⟨rfl, ((HB.out).alloc HB.out.size _).alloc (by simp; have := HB.out.size; omega) _⟩
end Go.Proofs.Ytbgkigdlbiknnaa
set_option linter.unusedSimpArgs false
namespace LexT
open Go Go.RowKit
set_option linter.unusedVariables false
/-- A row that was written out. -/
theorem At.lit {w : World} {g n k : Nat} {T : TypeId} {cs : List Cell} {S : List Nat} {xs : List Value} (h : w.heap[g]? = some (.cells xs.toArray T (0, 0))) (ha : AtL w cs S xs) (hl : cs.length = n * k) (hn : n ≤ maxLen) : At w (.row T k cs) (g :: S) (.slice (some ⟨g, 0, none⟩) n n) := by
  unfold At
  have hx := AtL.length _ _ _ ha
  refine ⟨n, xs, S, hl, ⟨by rw [hx, hl], .inr ⟨g, n, xs.toArray, rfl, Nat.zero_le _, h, Nat.le_refl _, hn, by simp; rw [hx, hl], ?_⟩⟩, rfl, ha⟩
  rw [← hl, ← hx]; simp
def AE (w : World) (cs : List Cell) (xs : List Value) : Prop := ∃ S, AtL w cs S xs
theorem AE.nil {w : World} : AE w [] [] := ⟨[], AtL.nil w⟩
theorem AE.plain {w : World} {v : Value} {cs : List Cell} {xs : List Value} (h : AE w cs xs) : AE w (.p v :: cs) (v :: xs) := ⟨_, h.choose_spec.plainCons⟩
theorem AE.empty {w : World} {T : TypeId} {k : Nat} {cs : List Cell} {xs : List Value} (h : AE w cs xs) : AE w (.row T k [] :: cs) (.slice none 0 0 :: xs) := ⟨_, AtL.cons (At.empty w T k) h.choose_spec⟩
theorem AE.row {w : World} {T : TypeId} {k g n : Nat} {cs ds : List Cell} {xs ys : List Value} (h : w.heap[g]? = some (.cells ys.toArray T (0, 0))) (hd : AE w ds ys) (hl : ds.length = n * k) (hn : n ≤ maxLen) (hc : AE w cs xs) : AE w (.row T k ds :: cs) (.slice (some ⟨g, 0, none⟩) n n :: xs) :=
  ⟨_, AtL.cons (At.lit h hd.choose_spec hl hn) hc.choose_spec⟩
theorem ext_old {w : World} {n : Nat} {o o' : Obj} (h : w.heap[n]? = some o) : (w.alloc o').heap[n]? = some o := (heap_alloc_old _ _ (Array.getElem?_eq_some_iff.1 h).1).trans h
theorem ext_new {w : World} {n : Nat} {o : Obj} (h : w.heap.size = n) : (w.alloc o).heap[n]? = some o := by subst h; exact heap_alloc_new w o
theorem ext_size {w : World} {n : Nat} {o : Obj} (h : w.heap.size = n) : (w.alloc o).heap.size = n + 1 := by simp [h]
end LexT
namespace Go.Proofs.Ytbgkigdlbiknnaa
open Go.Instr Go.RowKit LexT
set_option linter.unusedVariables false
theorem ex_lit {W : World} {g2 g3 g4 g5 g6 g7 g8 g9 g10 : Nat}
    (h2 : W.heap[g2]? = some (.cells #[.string ⟨#[88]⟩, .slice none 0 0, .int .i64 31] 44 (0, 0)))
    (h3 : W.heap[g3]? = some (.cells #[.string ⟨#[108]⟩, .slice (some ⟨g2, 0, none⟩) 1 1, .int .i64 29, .string ⟨#[78]⟩, .slice none 0 0, .int .i64 34] 44 (0, 0)))
    (h4 : W.heap[g4]? = some (.cells #[.string ⟨#[88]⟩, .slice none 0 0, .int .i64 25] 44 (0, 0)))
    (h5 : W.heap[g5]? = some (.cells #[.slice (some ⟨g4, 0, none⟩) 1 1, .string ⟨#[]⟩, .bool false, .string ⟨#[]⟩, .int .i64 0, .int .i64 25, .slice (some ⟨g3, 0, none⟩) 2 2, .string ⟨#[78]⟩, .bool true, .string ⟨#[32, 36, 36, 32, 61, 32, 36, 50, 32]⟩, .int .i64 45, .int .i64 29] 41 (0, 0)))
    (h6 : W.heap[g6]? = some (.cells #[.string ⟨#[78]⟩] 9 (0, 0)))
    (h7 : W.heap[g7]? = some (.cells #[.string ⟨#[116, 111, 107, 101, 110]⟩, .string ⟨#[105, 110, 116]⟩, .slice (some ⟨g6, 0, none⟩) 1 1, .int .i64 0] 35 (0, 0)))
    (h8 : W.heap[g8]? = some (.cells #[.string ⟨#[88]⟩] 9 (0, 0)))
    (h9 : W.heap[g9]? = some (.cells #[.slice none 0 0, .string ⟨#[]⟩, .bool false, .string ⟨#[]⟩, .int .i64 0, .int .i64 60] 41 (0, 0)))
    (h10 : W.heap[g10]? = some (.cells #[.string ⟨#[108]⟩, .slice (some ⟨g8, 0, none⟩) 1 1, .slice (some ⟨g5, 0, none⟩) 2 2, .int .i64 19, .string ⟨#[115]⟩, .slice none 0 0, .slice (some ⟨g9, 0, none⟩) 1 1, .int .i64 57] 38 (0, 0))) :
    AE W (textC exTx) [.slice (some ⟨g7, 0, none⟩) 1 1, .slice (some ⟨g10, 0, none⟩) 2 2] := by
  have m1 : 1 ≤ maxLen := by unfold maxLen; omega
  have m2 : 2 ≤ maxLen := by unfold maxLen; omega
  have w0 : IntKind.i64.wrap ((0 : Nat) : Int) = 0 := by rfl
  have w45 : IntKind.i64.wrap ((45 : Nat) : Int) = 45 := by rfl
  have x31 : AE W (wdsC 44 [.mk [88] [] 31]) [.string ⟨#[88]⟩, .slice none 0 0, .int .i64 31] := by
    simp only [wdsC, wdC, List.append_nil]; exact AE.plain (AE.empty (AE.plain AE.nil))
  have x25 : AE W (wdsC 44 [.mk [88] [] 25]) [.string ⟨#[88]⟩, .slice none 0 0, .int .i64 25] := by
    simp only [wdsC, wdC, List.append_nil]; exact AE.plain (AE.empty (AE.plain AE.nil))
  have ln : AE W (wdsC 44 [.mk [108] [.mk [88] [] 31] 29, .mk [78] [] 34]) [.string ⟨#[108]⟩, .slice (some ⟨g2, 0, none⟩) 1 1, .int .i64 29, .string ⟨#[78]⟩, .slice none 0 0, .int .i64 34] := by
    rw [show wdsC 44 [.mk [108] [.mk [88] [] 31] 29, .mk [78] [] 34] = [strC [108], .row 44 3 (wdsC 44 [.mk [88] [] 31]), .p (.int .i64 ((29 : Nat) : Int)), strC [78], .row 44 3 [], .p (.int .i64 ((34 : Nat) : Int))] by simp [wdsC, wdC]]
    exact AE.plain (AE.row h2 x31 (by rw [wdsC_length]; rfl) m1 (AE.plain (AE.plain (AE.empty (AE.plain AE.nil)))))
  have al : AE W ([(⟨[.mk [88] [] 25], [], false, [], 0, 25⟩ : Al), ⟨[.mk [108] [.mk [88] [] 31] 29, .mk [78] [] 34], [78], true, [32, 36, 36, 32, 61, 32, 36, 50, 32], 45, 29⟩].flatMap altC) [.slice (some ⟨g4, 0, none⟩) 1 1, .string ⟨#[]⟩, .bool false, .string ⟨#[]⟩, .int .i64 0, .int .i64 25, .slice (some ⟨g3, 0, none⟩) 2 2, .string ⟨#[78]⟩, .bool true, .string ⟨#[32, 36, 36, 32, 61, 32, 36, 50, 32]⟩, .int .i64 45, .int .i64 29] :=
    AE.row h4 x25 (by rw [wdsC_length]; rfl) m1 (AE.plain (AE.plain (AE.plain (AE.plain (AE.plain (AE.row h3 ln (by rw [wdsC_length]; rfl) m2 (AE.plain (AE.plain (AE.plain (AE.plain (AE.plain AE.nil))))))))))) 
  have al2 : AE W ([(⟨[], [], false, [], 0, 60⟩ : Al)].flatMap altC) [.slice none 0 0, .string ⟨#[]⟩, .bool false, .string ⟨#[]⟩, .int .i64 0, .int .i64 60] := by
    rw [show [(⟨[], [], false, [], 0, 60⟩ : Al)].flatMap altC = [.row 44 3 [], strC [], .p (.bool false), strC [], .p (.int .i64 (IntKind.i64.wrap ((0 : Nat) : Int))), .p (.int .i64 ((60 : Nat) : Int))] by simp [altC, wdsC]]
    exact AE.empty (AE.plain (AE.plain (AE.plain (AE.plain (AE.plain AE.nil)))))
  refine AE.row (n := 1) h7 ?_ rfl m1 (AE.row (n := 2) h10 ?_ rfl m2 AE.nil)
  · exact AE.plain (AE.plain (AE.row (n := 1) h6 (AE.plain AE.nil) rfl m1 (AE.plain AE.nil)))
  · exact AE.plain (AE.row (n := 1) h8 (AE.plain AE.nil) rfl m1 (AE.row (n := 2) h5 al rfl m2 (AE.plain (AE.plain (AE.empty (AE.row (n := 1) h9 al2 rfl m1 (AE.plain AE.nil)))))))
set_option maxHeartbeats 4000000 in
theorem awake_any (w : World) : Calls Try.prog 5 #[] w fun e w' => e = .returned (.bool true) ∧ Below w.heap.size w w' := by
  have HT := Lib.hid (Text_any (mkS exS) w (by decide))
  rw [mkS_list, ex_text] at HT
  go_enter Try.func5, Try.ntmps5
  go_wp2_with fail
  refine HT.out.mono ?_
  rintro e w1 (⟨x, S, xs, hR, rfl, hat, hnd, hge, hb⟩ | ⟨c', q', hR, rfl, hb⟩)
  · injection hR with hR
    subst hR
    obtain ⟨a1, n1, m1, a2, n2, m2, hxs⟩ := AtL.two hat
    subst hxs
    have HAT := Lib.hid (And.intro hat hb)
    clear hat hnd hge hb
    obtain ⟨W, hW⟩ : ∃ W, W = ((((((((((((w1.alloc (.cells #[.slice a1 n1 m1, .slice a2 n2 m2] 26)).alloc (.cells #[.int .i64 0, .int .i64 0] 29)).alloc (.cells #[.string ⟨#[88]⟩, .slice none 0 0, .int .i64 31] 44)).alloc (.cells #[.string ⟨#[108]⟩, .slice (some ⟨w1.heap.size + 1 + 1, 0, none⟩) 1 1, .int .i64 29, .string ⟨#[78]⟩, .slice none 0 0, .int .i64 34] 44)).alloc (.cells #[.string ⟨#[88]⟩, .slice none 0 0, .int .i64 25] 44)).alloc (.cells #[.slice (some ⟨w1.heap.size + 1 + 1 + 1 + 1, 0, none⟩) 1 1, .string ⟨#[]⟩, .bool false, .string ⟨#[]⟩, .int .i64 0, .int .i64 25, .slice (some ⟨w1.heap.size + 1 + 1 + 1, 0, none⟩) 2 2, .string ⟨#[78]⟩, .bool true, .string ⟨#[32, 36, 36, 32, 61, 32, 36, 50, 32]⟩, .int .i64 45, .int .i64 29] 41)).alloc (.cells #[.string ⟨#[78]⟩] 9)).alloc (.cells #[.string ⟨#[116, 111, 107, 101, 110]⟩, .string ⟨#[105, 110, 116]⟩, .slice (some ⟨w1.heap.size + 1 + 1 + 1 + 1 + 1 + 1, 0, none⟩) 1 1, .int .i64 0] 35)).alloc (.cells #[.string ⟨#[88]⟩] 9)).alloc (.cells #[.slice none 0 0, .string ⟨#[]⟩, .bool false, .string ⟨#[]⟩, .int .i64 0, .int .i64 60] 41)).alloc (.cells #[.string ⟨#[108]⟩, .slice (some ⟨w1.heap.size + 1 + 1 + 1 + 1 + 1 + 1 + 1 + 1, 0, none⟩) 1 1, .slice (some ⟨w1.heap.size + 1 + 1 + 1 + 1 + 1, 0, none⟩) 2 2, .int .i64 19, .string ⟨#[115]⟩, .slice none 0 0, .slice (some ⟨w1.heap.size + 1 + 1 + 1 + 1 + 1 + 1 + 1 + 1 + 1, 0, none⟩) 1 1, .int .i64 57] 38)).alloc (.cells #[.slice (some ⟨w1.heap.size + 1 + 1 + 1 + 1 + 1 + 1 + 1, 0, none⟩) 1 1, .slice (some ⟨w1.heap.size + 1 + 1 + 1 + 1 + 1 + 1 + 1 + 1 + 1 + 1, 0, none⟩) 2 2] 26)) := ⟨_, rfl⟩
    have h0 : W.heap[w1.heap.size]? = some (.cells #[.slice a1 n1 m1, .slice a2 n2 m2] 26) := by
      rw [hW]
      repeat (first | exact ext_new (by repeat (first | exact rfl | apply ext_size)) | apply ext_old)
    have h1 : W.heap[w1.heap.size + 1]? = some (.cells #[.int .i64 0, .int .i64 0] 29) := by
      rw [hW]
      repeat (first | exact ext_new (by repeat (first | exact rfl | apply ext_size)) | apply ext_old)
    have h2 : W.heap[w1.heap.size + 1 + 1]? = some (.cells #[.string ⟨#[88]⟩, .slice none 0 0, .int .i64 31] 44) := by
      rw [hW]
      repeat (first | exact ext_new (by repeat (first | exact rfl | apply ext_size)) | apply ext_old)
    have h3 : W.heap[w1.heap.size + 1 + 1 + 1]? = some (.cells #[.string ⟨#[108]⟩, .slice (some ⟨w1.heap.size + 1 + 1, 0, none⟩) 1 1, .int .i64 29, .string ⟨#[78]⟩, .slice none 0 0, .int .i64 34] 44) := by
      rw [hW]
      repeat (first | exact ext_new (by repeat (first | exact rfl | apply ext_size)) | apply ext_old)
    have h4 : W.heap[w1.heap.size + 1 + 1 + 1 + 1]? = some (.cells #[.string ⟨#[88]⟩, .slice none 0 0, .int .i64 25] 44) := by
      rw [hW]
      repeat (first | exact ext_new (by repeat (first | exact rfl | apply ext_size)) | apply ext_old)
    have h5 : W.heap[w1.heap.size + 1 + 1 + 1 + 1 + 1]? = some (.cells #[.slice (some ⟨w1.heap.size + 1 + 1 + 1 + 1, 0, none⟩) 1 1, .string ⟨#[]⟩, .bool false, .string ⟨#[]⟩, .int .i64 0, .int .i64 25, .slice (some ⟨w1.heap.size + 1 + 1 + 1, 0, none⟩) 2 2, .string ⟨#[78]⟩, .bool true, .string ⟨#[32, 36, 36, 32, 61, 32, 36, 50, 32]⟩, .int .i64 45, .int .i64 29] 41) := by
      rw [hW]
      repeat (first | exact ext_new (by repeat (first | exact rfl | apply ext_size)) | apply ext_old)
    have h6 : W.heap[w1.heap.size + 1 + 1 + 1 + 1 + 1 + 1]? = some (.cells #[.string ⟨#[78]⟩] 9) := by
      rw [hW]
      repeat (first | exact ext_new (by repeat (first | exact rfl | apply ext_size)) | apply ext_old)
    have h7 : W.heap[w1.heap.size + 1 + 1 + 1 + 1 + 1 + 1 + 1]? = some (.cells #[.string ⟨#[116, 111, 107, 101, 110]⟩, .string ⟨#[105, 110, 116]⟩, .slice (some ⟨w1.heap.size + 1 + 1 + 1 + 1 + 1 + 1, 0, none⟩) 1 1, .int .i64 0] 35) := by
      rw [hW]
      repeat (first | exact ext_new (by repeat (first | exact rfl | apply ext_size)) | apply ext_old)
    have h8 : W.heap[w1.heap.size + 1 + 1 + 1 + 1 + 1 + 1 + 1 + 1]? = some (.cells #[.string ⟨#[88]⟩] 9) := by
      rw [hW]
      repeat (first | exact ext_new (by repeat (first | exact rfl | apply ext_size)) | apply ext_old)
    have h9 : W.heap[w1.heap.size + 1 + 1 + 1 + 1 + 1 + 1 + 1 + 1 + 1]? = some (.cells #[.slice none 0 0, .string ⟨#[]⟩, .bool false, .string ⟨#[]⟩, .int .i64 0, .int .i64 60] 41) := by
      rw [hW]
      repeat (first | exact ext_new (by repeat (first | exact rfl | apply ext_size)) | apply ext_old)
    have h10 : W.heap[w1.heap.size + 1 + 1 + 1 + 1 + 1 + 1 + 1 + 1 + 1 + 1]? = some (.cells #[.string ⟨#[108]⟩, .slice (some ⟨w1.heap.size + 1 + 1 + 1 + 1 + 1 + 1 + 1 + 1, 0, none⟩) 1 1, .slice (some ⟨w1.heap.size + 1 + 1 + 1 + 1 + 1, 0, none⟩) 2 2, .int .i64 19, .string ⟨#[115]⟩, .slice none 0 0, .slice (some ⟨w1.heap.size + 1 + 1 + 1 + 1 + 1 + 1 + 1 + 1 + 1, 0, none⟩) 1 1, .int .i64 57] 38) := by
      rw [hW]
      repeat (first | exact ext_new (by repeat (first | exact rfl | apply ext_size)) | apply ext_old)
    have h11 : W.heap[w1.heap.size + 1 + 1 + 1 + 1 + 1 + 1 + 1 + 1 + 1 + 1 + 1]? = some (.cells #[.slice (some ⟨w1.heap.size + 1 + 1 + 1 + 1 + 1 + 1 + 1, 0, none⟩) 1 1, .slice (some ⟨w1.heap.size + 1 + 1 + 1 + 1 + 1 + 1 + 1 + 1 + 1 + 1, 0, none⟩) 2 2] 26) := by
      rw [hW]
      repeat (first | exact ext_new (by repeat (first | exact rfl | apply ext_size)) | apply ext_old)
    have hsz : W.heap.size = w1.heap.size + 12 := by rw [hW]; simp
    have hbW : Below w1.heap.size w1 W := by
      rw [hW]
      repeat (first | exact Below.refl _ _ | refine Below.alloc ?_ (by first | exact Nat.le_refl _ | (simp only [World.size_alloc]; omega)) _)
    have HS := Lib.hid (SameSource_one exTx _ _ _ _ W (HAT.out.1.same _ _ _ (fun g hg => hbW.block g (AtL.lt _ _ _ HAT.out.1 g hg))) (ex_lit h2 h3 h4 h5 h6 h7 h8 h9 h10).choose_spec)
    have HBW := Lib.hid (HAT.out.2.trans (hbW.mono HAT.out.2.size))
    have HW := Lib.hid hW
    clear h0 h1 h2 h3 h4 h5 h6 h7 h8 h9 h10 h11 hsz hbW hW
    go_wp2_with fail
    rw [← HW.out]
    refine HS.out.mono ?_
    rintro e w2 ⟨rfl, hb2⟩
    have HB2 := Lib.hid (HBW.out.trans (hb2.mono HBW.out.size))
    clear hb2
    go_wp2_with fail
    refine (fault_t (mkS [37, 37, 32, 101, 58, 32, 40, 32, 58]) w2 (by decide) 102 6 (by rw [mkS_list]; exact bad_text1)).mono ?_
    rintro e w3 ⟨rfl, hb3⟩
    have HB3 := Lib.hid (HB2.out.trans (hb3.mono HB2.out.size))
    clear hb3
    go_wp2_with fail
    refine (fault_t (mkS [37, 108, 101, 102, 116, 32, 60, 105, 110, 116, 62, 32, 80, 59]) w3 (by decide) 102 6 (by rw [mkS_list]; exact bad_text2)).mono ?_
    rintro e w4 ⟨rfl, hb4⟩
    have HB4 := Lib.hid (HB3.out.trans (hb4.mono HB3.out.size))
    clear hb4
    go_wp2_with fail
    go_ret
    exact ⟨rfl, HB4.out⟩
  · cases hR
end Go.Proofs.Ytbgkigdlbiknnaa
