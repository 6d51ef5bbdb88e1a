/- What the document says of a grammar's tokens: plain definitions over lists of bytes; nothing of the program. -/
import Derived.WalkKit
import Derived.Below
set_option maxRecDepth 100000
namespace LexT
set_option linter.unusedVariables false
abbrev Bs := List UInt8
def isBl (c : UInt8) : Bool := c == 9 || c == 10 || c == 13 || c == 32
def isDg (c : UInt8) : Bool := 48 ≤ c && c ≤ 57
def isLt (c : UInt8) : Bool := (97 ≤ c && c ≤ 122) || ((65 ≤ c && c ≤ 90) || c == 95)
def isLd (c : UInt8) : Bool := isLt c || isDg c
def notNL (c : UInt8) : Bool := c != 10
def words : List Bs := [[116, 111, 107, 101, 110], [116, 121, 112, 101], [108, 101, 102, 116], [114, 105, 103, 104, 116], [110, 111, 110, 97, 115, 115, 111, 99], [115, 116, 97, 114, 116], [112, 114, 101, 99]]
def isSg (c : UInt8) : Bool := c == 58 || c == 59 || c == 124 || c == 40 || c == 41 || c == 44 || c == 60 || c == 62
/-- The byte that stands n behind; where none does 0. -/
def lookB (l : Bs) (n : Nat) : UInt8 := l.getD n 0
structure Tok where
  kind : Nat
  text : Bs
  place : Nat
/-- How many bytes a string takes, behind its first sign, its last one with it. -/
def strB : Bs → Option Nat
  | [] => none
  | c :: r =>
    if c == 34 then some 1
    else if c == 10 then none
    else if c == 92 then
      match r with
      | [] => none
      | _ :: r1 => (strB r1).map (· + 2)
    else (strB r).map (· + 1)
/-- How many bytes go by at once within an action. -/
def pieceB (c : UInt8) (r : Bs) : Option Nat :=
  if c == 34 then (strB r).map (· + 1)
  else if c == 47 then (if [47].isPrefixOf r then some (1 + (r.takeWhile notNL).length) else some 1)
  else some 1
def openB (c : UInt8) (o : Nat) : Nat := if c == 123 then o + 1 else if c == 125 then o - 1 else o
/-- How many bytes there are up to where nothing is open, with what closes it. -/
def actF : Nat → Nat → Bs → Option Nat
  | 0, _, _ => none
  | f + 1, o, l =>
    match l with
    | [] => none
    | c :: r =>
      match pieceB c r with
      | none => none
      | some n => if openB c o = 0 then some n else (actF f (openB c o) ((c :: r).drop n)).map (· + n)
def actB (o : Nat) (l : Bs) : Option Nat := actF (l.length + 1) o l
def nameT (l : Bs) : Except Nat (Nat × Bs × Nat) :=
  let t := l.takeWhile isLd
  if t.length ≤ 40 then .ok (2, t, t.length) else .error 101
def wordT (l : Bs) : Except Nat (Nat × Bs × Nat) :=
  let t := (l.drop 1).takeWhile isLd
  if words.contains t then .ok (1, t, 1 + t.length) else .error 101
def actionT (l : Bs) : Except Nat (Nat × Bs × Nat) :=
  match actB 0 l with
  | some n => .ok (9, (l.take (n - 1)).drop 1, n)
  | none => .error 101
/-- The token that stands there: its kind, its text, how many bytes it takes. -/
def oneT (l : Bs) : Except Nat (Nat × Bs × Nat) :=
  let c := lookB l 0
  if isLt c then nameT l
  else if c == 123 then actionT l
  else if [37, 37].isPrefixOf l then .ok (6, [37, 37], 2)
  else if c == 37 then wordT l
  else if isSg c then .ok (6, [c], 1) else .error 100
/-- Blanks and comments. -/
def skipF : Nat → Bs → Nat
  | 0, _ => 0
  | f + 1, l =>
    let k := (l.takeWhile isBl).length
    if [47, 47].isPrefixOf (l.drop k) then
      let m := ((l.drop k).takeWhile notNL).length
      k + (m + skipF f (l.drop (k + m)))
    else k
def skipB (l : Bs) : Nat := skipF (l.length + 1) l
/-- From a place on, behind these tokens. -/
def goT : Nat → Bs → Nat → List Tok → Except (Nat × Nat) (List Tok)
  | 0, _, _, _ => .error (0, 0)
  | f + 1, l, p, ts =>
    let k := skipB l
    let l1 := l.drop k
    match l1 with
    | [] => .ok (ts ++ [⟨7, [], p + k⟩])
    | c :: r =>
      match oneT (c :: r) with
      | .error e => .error (e, p + k)
      | .ok (kd, t, n) => goT f ((c :: r).drop n) (p + k + n) (ts ++ [⟨kd, t, p + k⟩])
def tokensT (s : Bs) : Except (Nat × Nat) (List Tok) := if s.length > 65536 then .error (3, 0) else goT (s.length + 1) s 0 []
def spell (k : Nat) (t : Bs) : Bs := if k == 1 then 37 :: t else if k == 9 then 123 :: (t ++ [125]) else t
def exB (s : Bs) : Bs := match tokensT s with | .ok ts => ts.flatMap fun t => spell t.kind t.text ++ [32, UInt8.ofNat t.place] | .error e => [UInt8.ofNat e.1, UInt8.ofNat e.2]
example : exB [37, 102, 111, 111] = [101, 0] := by decide
example : exB [101, 32, 123, 32] = [101, 2] := by decide
example : exB [101, 32, 61, 32] = [100, 2] := by decide
example : exB [123, 34, 125, 34, 125, 47, 47, 97, 10, 32, 37, 37, 58] = [123, 34, 125, 34, 125, 32, 0, 37, 37, 32, 10, 58, 32, 12, 32, 13] := by decide
end LexT
