/- What the document says of tokens: plain definitions over lists of bytes; nothing of the program. -/
import Derived.WalkKit
import Derived.Below
set_option maxRecDepth 100000
namespace ScnT
set_option linter.unusedVariables false
abbrev Bs := List UInt8
def isBl (c : UInt8) : Bool := c == 9 || c == 13 || c == 32
def isDg (c : UInt8) : Bool := 48 ≤ c && c ≤ 57
def isLt (c : UInt8) : Bool := (97 ≤ c && c ≤ 122) || ((65 ≤ c && c ≤ 90) || c == 95)
def isLd (c : UInt8) : Bool := isLt c || isDg c
def isPl (c : UInt8) : Bool := 32 ≤ c && (c ≤ 126 && (c != 34 && c != 92))
def words : List Bs := [[98, 114, 101, 97, 107], [99, 97, 115, 101], [99, 111, 110, 116, 105, 110, 117, 101], [100, 101, 102, 97, 117, 108, 116], [101, 108, 115, 101], [102, 111, 114], [102, 117, 110, 99], [105, 102], [112, 97, 99, 107, 97, 103, 101], [114, 101, 116, 117, 114, 110], [115, 116, 114, 117, 99, 116], [115, 119, 105, 116, 99, 104], [116, 121, 112, 101], [118, 97, 114], [116, 114, 117, 101], [102, 97, 108, 115, 101]]
def foreignWords : List Bs := [[99, 104, 97, 110], [99, 111, 110, 115, 116], [100, 101, 102, 101, 114], [102, 97, 108, 108, 116, 104, 114, 111, 117, 103, 104], [103, 111], [103, 111, 116, 111], [105, 109, 112, 111, 114, 116], [105, 110, 116, 101, 114, 102, 97, 99, 101], [109, 97, 112], [114, 97, 110, 103, 101], [115, 101, 108, 101, 99, 116]]
def signs : List Bs := [[123], [125], [40], [41], [91], [93], [44], [59], [58], [58, 61], [46], [61], [61, 61], [33, 61], [60], [60, 61], [62], [62, 61], [43], [45], [42], [47], [37], [33], [38, 38], [124, 124]]
def oddSigns : List Bs := [[43, 43], [45, 45], [43, 61], [45, 61], [42, 61], [47, 61], [37, 61], [60, 60], [62, 62], [60, 45], [47, 42], [46, 46, 46]]
def lineWords : List Bs := [[98, 114, 101, 97, 107], [99, 111, 110, 116, 105, 110, 117, 101], [114, 101, 116, 117, 114, 110], [116, 114, 117, 101], [102, 97, 108, 115, 101]]
def lineSigns : List Bs := [[41], [93], [125]]
/-- The byte that stands n behind; where none does 0. -/
def lookB (l : Bs) (n : Nat) : UInt8 := l.getD n 0
structure Tok where
  kind : Nat
  text : Bs
  place : Nat
/-- What a digit in base 16 says. -/
def hexB (c : UInt8) : Option UInt8 := if isDg c then some (c - 48) else if 97 ≤ c && c ≤ 102 then some (c - 87) else if 65 ≤ c && c ≤ 70 then some (c - 55) else none
def pairB (c : UInt8) : Option UInt8 := if c == 110 then some 10 else if c == 116 then some 9 else if c == 114 then some 13 else if c == 92 then some 92 else if c == 34 then some 34 else none
/-- What stands in a string, behind its first sign: what it says, and how many bytes it takes, its last sign with it. -/
def saysB : Bs → Option (Bs × Nat)
  | [] => none
  | c :: r =>
    if c == 34 then some ([], 1)
    else if c == 92 then
      match r with
      | [] => none
      | d :: r1 =>
        if d == 120 then
          match r1 with
          | h :: k :: r2 => match hexB h, hexB k, saysB r2 with | some x, some y, some (t, n) => some ((x <<< 4 ||| y) :: t, n + 4) | _, _, _ => none
          | _ => none
        else match pairB d, saysB r1 with | some x, some (t, n) => some (x :: t, n + 2) | _, _ => none
    else if isPl c then match saysB r with | some (t, n) => some (c :: t, n + 1) | none => none
    else none
def nameT (l : Bs) : Except Nat (Nat × Bs × Nat) :=
  let t := l.takeWhile isLd
  if words.contains t then .ok (1, t, t.length)
  else if (t != [95]) && (decide (t.length ≤ 40) && !foreignWords.contains t) then .ok (2, t, t.length) else .error 101
def numberT (l : Bs) : Except Nat (Nat × Bs × Nat) :=
  let a := l.takeWhile isDg
  let l1 := l.drop a.length
  let p := lookB l1 0 == 46 && isDg (lookB l1 1)
  let b := if p then (l1.drop 1).takeWhile isDg else []
  let n := if p then a.length + 1 + b.length else a.length
  let l2 := l.drop n
  if (lookB a 0 != 48 || a.length == 1) && (decide (a.length + b.length ≤ 40) && (!isLt (lookB l2 0) && lookB l2 0 != 46)) then .ok (if p then 4 else 3, l.take n, n) else .error 101
def stringT (l : Bs) : Except Nat (Nat × Bs × Nat) := match saysB (l.drop 1) with | some (t, n) => .ok (5, t, n + 1) | none => .error 101
def dollarT (l : Bs) : Except Nat (Nat × Bs × Nat) :=
  if lookB l 1 == 36 then .ok (8, [36], 2)
  else
    let a := (l.drop 1).takeWhile isDg
    if (a != []) && (decide (a.length ≤ 2) && (lookB a 0 != 48 && !isLt (lookB (l.drop (1 + a.length)) 0))) then .ok (8, a, 1 + a.length) else .error 101
def signT (l : Bs) : Nat → Except Nat (Nat × Bs × Nat)
  | 0 => .error 100
  | n + 1 => let t := l.take (n + 1); if oddSigns.contains t then .error 101 else if signs.contains t then .ok (6, t, t.length) else signT l n
/-- The token that stands there: its kind, its text, how many bytes it takes. -/
def oneT (l : Bs) : Except Nat (Nat × Bs × Nat) :=
  let c := lookB l 0
  if isLt c then nameT l else if isDg c then numberT l else if c == 34 then stringT l else if c == 36 then dollarT l else signT l 3
/-- Blanks and a comment. -/
def skipB (l : Bs) : Nat :=
  let k := (l.takeWhile isBl).length
  if [47, 47].isPrefixOf (l.drop k) then k + ((l.drop k).takeWhile (· != 10)).length else k
def mayEnd (t : Tok) : Bool := if t.kind == 1 then lineWords.contains t.text else if t.kind == 6 then lineSigns.contains t.text else decide (2 ≤ t.kind ∧ t.kind ≤ 5 ∨ t.kind = 8)
def endLine (ts : List Tok) (p : Nat) : List Tok := match ts.getLast? with | some t => if mayEnd t then ts ++ [⟨6, [59], p⟩] else ts | none => ts
/-- From a place on, behind these tokens. -/
def goT : Nat → Bs → Nat → List Tok → Except (Nat × Nat) (List Tok)
  | 0, _, _, _ => .error (0, 0)
  | f + 1, l, p, ts =>
    let k := skipB l
    let l1 := l.drop k
    match l1 with
    | [] => .ok (endLine ts (p + k) ++ [⟨7, [], p + k⟩])
    | c :: r => if c == 10 then goT f r (p + k + 1) (endLine ts (p + k)) else
      match oneT l1 with
      | .error e => .error (e, p + k)
      | .ok (kd, t, n) => goT f (l1.drop n) (p + k + n) (ts ++ [⟨kd, t, p + k⟩])
def tokensT (s : Bs) : Except (Nat × Nat) (List Tok) := if s.length > 65536 then .error (3, 0) else goT (s.length + 1) s 0 []
/-- A text quoted. -/
def digB (x : UInt8) : UInt8 := if x ≤ 9 then x + 48 else x + 87
def quoteOne (c : UInt8) : Bs := if c == 10 then [92, 110] else if c == 9 then [92, 116] else if c == 13 then [92, 114] else if c == 92 then [92, 92] else if c == 34 then [92, 34] else if isPl c then [c] else [92, 120, digB (c >>> 4), digB (c &&& 15)]
def quoteB (s : Bs) : Bs := 34 :: (s.flatMap quoteOne ++ [34])
def textsB (s : Bs) : Bs := match tokensT s with | .ok ts => ts.flatMap fun t => t.text ++ [32] | .error _ => [63]
example : textsB [120, 32, 58, 61, 32, 49, 46, 53, 10, 125] = [120, 32, 58, 61, 32, 49, 46, 53, 32, 59, 32, 125, 32, 59, 32, 32] := by decide
example : textsB [34, 97, 92, 120, 52, 49, 34] = [97, 65, 32, 59, 32, 32] := by decide
example : textsB [36, 36, 32, 61, 32, 36, 49, 50] = [36, 32, 61, 32, 49, 50, 32, 59, 32, 32] := by decide
example : (match tokensT [48, 48, 55] with | .error x => x | .ok _ => (0, 0)) = (101, 0) := by decide
example : (match tokensT [97, 32, 60, 45, 32, 98] with | .error x => x | .ok _ => (0, 0)) = (101, 2) := by decide
example : (match tokensT [103, 111] with | .error x => x | .ok _ => (0, 0)) = (101, 0) := by decide
example : (match tokensT [97, 32, 38, 32, 98] with | .error x => x | .ok _ => (0, 0)) = (100, 2) := by decide
end ScnT
