/- What the document says of a grammar's text: plain definitions over tokens; nothing of the program. -/
import Derived.Test.YtngimijiafnheaaGreatLexA
set_option maxRecDepth 100000
namespace LexT
set_option linter.unusedVariables false
inductive Wd | mk (name : Bs) (args : List Wd) (at_ : Nat)
structure Al where
  words : List Wd
  prec : Bs
  has : Bool
  action : Bs
  where_ : Nat
  at_ : Nat
structure Ru where
  name : Bs
  params : List Bs
  alts : List Al
  at_ : Nat
structure De where
  kind : Bs
  type : Bs
  names : List Bs
  at_ : Nat
structure Tx where
  decls : List De
  rules : List Ru
abbrev Er := Nat × Nat
abbrev Res (α : Type) := Except Er (α × List Tok)
abbrev Pa (α : Type) := Option (Res α)
/-- One behind the other. -/
def bnd {α β : Type} (x : Pa α) (g : α → List Tok → Pa β) : Pa β :=
  match x with
  | none => none
  | some (.error e) => some (.error e)
  | some (.ok (a, l)) => g a l
def atT (t : Tok) (xs : List Bs) : Bool := (t.kind != 2 && t.kind != 9) && xs.contains t.text
def atB (xs : List Bs) (l : List Tok) : Bool := match l with | [] => false | t :: _ => atT t xs
def kindB (k : Nat) (l : List Tok) : Bool := match l with | [] => false | t :: _ => t.kind == k
def plc (l : List Tok) : Nat := match l with | [] => 0 | t :: _ => t.place
def needF (xs : List Bs) (l : List Tok) : Res Tok := match l with | [] => .error (0, 0) | t :: r => if atT t xs then .ok (t, r) else .error (102, t.place)
def nameF (l : List Tok) : Res Tok := match l with | [] => .error (0, 0) | t :: r => if t.kind == 2 then .ok (t, r) else .error (102, t.place)
def typeF (l : List Tok) : Pa Bs := bnd (some (needF [[60]] l)) fun _ l1 => bnd (some (nameF l1)) fun n l2 => bnd (some (needF [[62]] l2)) fun _ l3 => some (.ok (n.text, l3))
def kinds : List Bs := [[116, 111, 107, 101, 110], [116, 121, 112, 101], [108, 101, 102, 116], [114, 105, 103, 104, 116], [110, 111, 110, 97, 115, 115, 111, 99], [115, 116, 97, 114, 116]]
def typedF (k : Bs) (l : List Tok) : Pa Bs := if k == [116, 121, 112, 101] || (k == [116, 111, 107, 101, 110] && atB [[60]] l) then typeF l else some (.ok ([], l))
def namesF : Nat → List Bs → List Tok → Pa (List Bs)
  | 0, _, _ => none
  | f + 1, ns, l => if atB [[59]] l then some (.ok (ns, l.tail)) else bnd (some (nameF l)) fun n l1 => namesF f (ns ++ [n.text]) l1
def declF (f : Nat) (l : List Tok) : Pa De :=
  bnd (some (needF kinds l)) fun w l1 => bnd (typedF w.text l1) fun ty l2 => bnd (some (nameF l2)) fun n l3 => bnd (namesF f [n.text] l3) fun ns l4 => some (.ok (⟨w.text, ty, ns, w.place⟩, l4))
/-- One thing or more, with something between them. -/
def someF {β : Type} (one : β → List Tok → Pa β) (sep : Bs) : Nat → β → List Tok → Pa β
  | 0, _, _ => none
  | f + 1, x, l => bnd (one x l) fun x' l' => if atB [sep] l' then someF one sep f x' l'.tail else some (.ok (x', l'))
def givenF {β : Type} (one : β → List Tok → Pa β) (f : Nat) (x : β) (l : List Tok) : Pa β :=
  if atB [[40]] l then bnd (someF one [44] f x l.tail) fun x' l2 => bnd (some (needF [[41]] l2)) fun _ l3 => some (.ok (x', l3)) else some (.ok (x, l))
def paramF (ps : List Bs) (l : List Tok) : Pa (List Bs) := bnd (some (nameF l)) fun n l1 => some (.ok (ps ++ [n.text], l1))
def wordF : Nat → Nat → List Tok → Pa Wd
  | 0, _, _ => none
  | f + 1, k, l => bnd (some (nameF l)) fun n l1 =>
    if 60 < k then some (.error (103, n.place))
    else bnd (givenF (fun ws l => bnd (wordF f (k + 1) l) fun x l' => some (.ok (ws ++ [x], l'))) (f + 1) [] l1) fun ws l2 => some (.ok (.mk n.text ws n.place, l2))
def wordsF (N : Nat) : Nat → List Wd → List Tok → Pa (List Wd)
  | 0, _, _ => none
  | f + 1, ws, l => if kindB 2 l then bnd (wordF N 0 l) fun x l1 => wordsF N f (ws ++ [x]) l1 else some (.ok (ws, l))
def precF (l : List Tok) : Pa Bs := if atB [[112, 114, 101, 99]] l then bnd (some (nameF l.tail)) fun n l2 => some (.ok (n.text, l2)) else some (.ok ([], l))
def actF2 (ws : List Wd) (pr : Bs) (p : Nat) (l : List Tok) : Pa Al :=
  match l with
  | [] => some (.ok (⟨ws, pr, false, [], 0, p⟩, []))
  | t :: r => if t.kind == 9 then some (.ok (⟨ws, pr, true, t.text, t.place + 1, p⟩, r)) else some (.ok (⟨ws, pr, false, [], 0, p⟩, t :: r))
def altF (N : Nat) (l : List Tok) : Pa Al := bnd (wordsF N N [] l) fun ws l1 => bnd (precF l1) fun pr l2 => actF2 ws pr (plc l) l2
def altsF (N : Nat) (as : List Al) (l : List Tok) : Pa (List Al) := bnd (altF N l) fun a l1 => some (.ok (as ++ [a], l1))
def ruleF (N : Nat) (l : List Tok) : Pa Ru :=
  bnd (some (nameF l)) fun n l1 => bnd (givenF paramF N [] l1) fun ps l2 => bnd (some (needF [[58]] l2)) fun _ l3 =>
    bnd (someF (altsF N) [124] N [] l3) fun as l4 => bnd (some (needF [[59]] l4)) fun _ l5 => some (.ok (⟨n.text, ps, as, n.place⟩, l5))
def declsF (N : Nat) : Nat → List De → List Tok → Pa (List De)
  | 0, _, _ => none
  | f + 1, ds, l => if atB [[37, 37]] l then some (.ok (ds, l.tail)) else bnd (declF N l) fun d l1 => declsF N f (ds ++ [d]) l1
def rulesF (N : Nat) : Nat → List Ru → List Tok → Pa (List Ru)
  | 0, _, _ => none
  | f + 1, rs, l => if atB [[]] l then some (.ok (rs, l)) else bnd (ruleF N l) fun r l1 => rulesF N f (rs ++ [r]) l1
def textF (N : Nat) (l : List Tok) : Pa Tx := bnd (declsF N N [] l) fun ds l1 => bnd (rulesF N N [] l1) fun rs l2 => some (.ok (⟨ds, rs⟩, l2))
/-- Tokens with the end behind them. -/
def Fine (l : List Tok) : Prop := ∃ u e, l = u ++ [e] ∧ e.kind = 7 ∧ e.text = []
theorem Fine.pos {l : List Tok} (h : Fine l) : 0 < l.length := by obtain ⟨u, e, rfl, _⟩ := h; simp
theorem Fine.cons {l : List Tok} (h : Fine l) : ∃ t r, l = t :: r := by
  cases l with
  | nil => have := h.pos; simp at this
  | cons t r => exact ⟨t, r, rfl⟩
theorem Fine.tail {t : Tok} {r : List Tok} (h : Fine (t :: r)) (ht : t.kind ≠ 7 ∨ t.text ≠ []) : Fine r := by
  obtain ⟨u, e, hu, h1, h2⟩ := h
  cases u with
  | nil => simp at hu; obtain ⟨rfl, rfl⟩ := hu; rcases ht with ht | ht <;> contradiction
  | cons x u => simp at hu; exact ⟨u, e, hu.2, h1, h2⟩
theorem atT_text {t : Tok} {xs : List Bs} (h : atT t xs = true) (hx : ∀ x ∈ xs, x ≠ []) : t.text ≠ [] := by
  unfold atT at h
  simp only [Bool.and_eq_true, List.contains_iff_mem] at h
  exact hx _ h.2
end LexT
