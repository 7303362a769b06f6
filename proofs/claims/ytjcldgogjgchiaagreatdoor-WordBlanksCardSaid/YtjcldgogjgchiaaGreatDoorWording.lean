/-
  The plain functions of layer 2: what the functions of package word come to, on lists of bytes. Nothing of the program is named here.
-/
import Derived.Test.YtjcldgogjgchiaaGreatDoorCutting
namespace Go.Proofs.YtjcldgogjgchiaaGreatDoor.Wording
open Go Cutting

abbrev L := List UInt8

def spanN (p : UInt8 → Bool) (s : L) : Nat := (s.takeWhile p).length
def hexB (b : UInt8) : Bool := digB b || (97 ≤ b && b ≤ 102) || (65 ≤ b && b ≤ 70)
def notNl (b : UInt8) : Bool := b != 10
def low (b : UInt8) : UInt8 := if 65 ≤ b && b ≤ 90 then b + 32 else b

def keysL : List L := [[97, 98, 115, 116, 114, 97, 99, 116],
  [97, 110, 100],
  [97, 115],
  [98, 114, 101, 97, 107],
  [99, 97, 115, 101],
  [99, 97, 116, 99, 104],
  [99, 108, 97, 115, 115],
  [99, 108, 111, 110, 101],
  [99, 111, 110, 115, 116],
  [99, 111, 110, 116, 105, 110, 117, 101],
  [100, 101, 102, 97, 117, 108, 116],
  [100, 111],
  [101, 99, 104, 111],
  [101, 108, 115, 101],
  [101, 108, 115, 101, 105, 102],
  [101, 109, 112, 116, 121],
  [101, 120, 105, 116],
  [101, 120, 116, 101, 110, 100, 115],
  [102, 105, 110, 97, 108],
  [102, 105, 110, 97, 108, 108, 121],
  [102, 110],
  [102, 111, 114],
  [102, 111, 114, 101, 97, 99, 104],
  [102, 117, 110, 99, 116, 105, 111, 110],
  [103, 108, 111, 98, 97, 108],
  [105, 102],
  [105, 109, 112, 108, 101, 109, 101, 110, 116, 115],
  [105, 110, 99, 108, 117, 100, 101],
  [105, 110, 99, 108, 117, 100, 101, 95, 111, 110, 99, 101],
  [105, 110, 115, 116, 97, 110, 99, 101, 111, 102],
  [105, 110, 115, 116, 101, 97, 100, 111, 102],
  [105, 110, 116, 101, 114, 102, 97, 99, 101],
  [105, 115, 115, 101, 116],
  [110, 97, 109, 101, 115, 112, 97, 99, 101],
  [110, 101, 119],
  [111, 114],
  [112, 117, 98, 108, 105, 99],
  [114, 101, 113, 117, 105, 114, 101],
  [114, 101, 113, 117, 105, 114, 101, 95, 111, 110, 99, 101],
  [114, 101, 116, 117, 114, 110],
  [115, 116, 97, 116, 105, 99],
  [115, 119, 105, 116, 99, 104],
  [116, 104, 114, 111, 119],
  [116, 114, 97, 105, 116],
  [116, 114, 121],
  [117, 110, 115, 101, 116],
  [117, 115, 101],
  [119, 104, 105, 108, 101]]
def signsL : List L := [[60, 61, 62], [61, 61, 61], [33, 61, 61], [46, 46, 46], [63, 63, 61], [61, 61], [33, 61], [60, 61], [62, 61], [38, 38], [124, 124], [63, 63], [43, 43], [45, 45], [43, 61], [45, 61], [42, 61], [37, 61], [46, 61], [45, 62], [61, 62], [58, 58], [40], [41], [91], [93], [123], [125], [59], [44], [46], [43], [45], [42], [37], [60], [62], [33], [61], [63], [58], [38], [124]]

def isKeyB (s : L) : Bool := keysL.contains s
def isSignB (s : L) : Bool := signsL.contains s
def keyB (s : L) : Bool := isKeyB (s.map low)
def signN (s : L) : Nat :=
  if 3 ≤ s.length && isSignB (s.take 3) then 3 else if 2 ≤ s.length && isSignB (s.take 2) then 2 else if 1 ≤ s.length && isSignB (s.take 1) then 1 else 0

/- ---- what stands between tokens -/
/-- A comment's bytes; 0: it does not end. -/
def comGo : L → Option Nat
  | [] => none
  | b :: r => if Lib.hasPrefix (b :: r) [42, 47] then some 0 else (comGo r).map (· + 1)
def comN (s : L) : Nat := match comGo (s.drop 2) with | some n => n + 4 | none => 0
def gapF : Nat → L → Nat × Bool
  | 0, _ => (0, false)
  | f + 1, r =>
    if r.isEmpty then (0, false)
    else if Lib.hasPrefix r [47, 42] then (if comN r = 0 then (0, true) else ((gapF f (r.drop (comN r))).1 + comN r, (gapF f (r.drop (comN r))).2))
    else if Lib.hasPrefix r [35] || Lib.hasPrefix r [47, 47] then ((gapF f (r.drop (spanN notNl r))).1 + spanN notNl r, (gapF f (r.drop (spanN notNl r))).2)
    else if spanN blankB r = 0 then (0, false)
    else ((gapF f (r.drop (spanN blankB r))).1 + spanN blankB r, (gapF f (r.drop (spanN blankB r))).2)
def gapN (r : L) : Nat × Bool := gapF r.length r

/- ---- names, numbers -/
/-- The bytes of what stands behind a name's first word, and whether each backslash has a word behind it. -/
def moreF : Nat → L → Nat × Bool
  | 0, _ => (0, true)
  | f + 1, r =>
    if Lib.hasPrefix r [92] then
      (if wordN (r.drop 1) = 0 then (0, false) else ((moreF f (r.drop (1 + wordN (r.drop 1)))).1 + (1 + wordN (r.drop 1)), (moreF f (r.drop (1 + wordN (r.drop 1)))).2))
    else (0, true)
def moreN (r : L) : Nat × Bool := moreF r.length r
def nameN (s : L) : Nat × Bool := (wordN s + (moreN (s.drop (wordN s))).1, (moreN (s.drop (wordN s))).2)
def nameB (s : L) : Bool := (nameN s).2 && decide (0 < (nameN s).1) && decide ((nameN s).1 = s.length) && decide (s.length ≤ 64) && !keyB s

def hexOf (b : UInt8) : Nat := if digB b then b.toNat - 48 else if 97 ≤ b then b.toNat - 87 else b.toNat - 55
def valN (base : Nat) (s : L) : Nat := s.foldl (fun n b => n * base + hexOf b) 0
def isHex (s : L) : Bool := (Lib.hasPrefix s [48, 120] || Lib.hasPrefix s [48, 88]) && decide (0 < spanN hexB (s.drop 2))
def numN (s : L) : Nat := if isHex s then 2 + spanN hexB (s.drop 2) else if s.head? = some 48 then 1 else spanN digB s
def numDigits (s : L) : L := if isHex s then (s.drop 2).take (spanN hexB (s.drop 2)) else s.take (numN s)
def numBase (s : L) : Nat := if isHex s then 16 else 10

/- ---- texts -/
/-- Where the byte stands that ends the text whose inside begins here. -/
def endGo (q : UInt8) : L → Option Nat
  | [] => none
  | b :: r => if b = 92 then (match r with | [] => none | _ :: r' => (endGo q r').map (· + 2)) else if b = q then some 0 else (endGo q r).map (· + 1)
def plainGo : L → L
  | [] => []
  | [b] => [b]
  | b :: c :: r => if b = 92 && (c = 39 || c = 92) then c :: plainGo r else b :: plainGo (c :: r)

structure Prt where
  kind : Nat
  text : L
  key : L
deriving DecidableEq
/-- A token, but its place. -/
structure Tk where
  kind : Nat
  text : L
  int : Int
  parts : List Prt
deriving DecidableEq
abbrev R (α : Type) := Except (Nat × Nat) α

def signT (s : L) : Tk := ⟨7, s, 0, []⟩
def textT (s : L) : Tk := ⟨5, s, 0, []⟩

def hexGo (s : L) : UInt8 := UInt8.ofNat (valN 16 s)
/-- What a backslash and what stands behind it are, and how many bytes they have: s begins with the backslash. -/
def escN (s : L) (quoted : Bool) : UInt8 × Nat :=
  match s.drop 1 with
  | [] => (92, 1)
  | c :: r =>
    if c = 110 then (10, 2) else if c = 116 then (9, 2) else if c = 114 then (13, 2) else if c = 92 || c = 36 then (c, 2)
    else if c = 120 then (if spanN hexB (r.take 2) = 0 then (92, 1) else (hexGo ((r.take 2).take (spanN hexB (r.take 2))), 2 + spanN hexB (r.take 2)))
    else if c = 34 && quoted then (34, 2) else (92, 1)

def keyNumB (s : L) : Bool :=
  s == [48] || (let d := if Lib.hasPrefix s [45] then s.drop 1 else s
    decide (d ≠ []) && decide (d.head? ≠ some 48) && decide (spanN digB d = d.length))
def isWordB (s : L) : Bool := decide (s ≠ []) && decide (wordN s = s.length)
/-- The bytes up to a byte; none: it is not there. -/
def upto (q : UInt8) : L → Option Nat
  | [] => none
  | b :: r => if b = q then some 0 else (upto q r).map (· + 1)
/-- What stands in brackets: its kind and key, and how many bytes it has; 0: it is not as told. s begins with the bracket. -/
def elemN (s : L) : Nat × L × Nat :=
  match upto 93 (s.drop 1) with
  | none => (0, [], 0)
  | some n =>
    let ins := (s.drop 1).take n
    let w := if Lib.hasPrefix ins [36] then ins.drop 1 else ins
    if keyNumB ins then (2, ins, n + 2) else if !isWordB w then (0, [], 0) else if Lib.hasPrefix ins [36] then (4, w, n + 2) else (3, w, n + 2)
/-- The part that a variable begins, and how many bytes it has. -/
def varPart (s : L) : R (Prt × Nat) :=
  let e := 1 + wordN (s.drop 1)
  let t := (s.drop 1).take (wordN (s.drop 1))
  if 64 < wordN (s.drop 1) then .error (2, 0) else
  let rest := s.drop e
  if Lib.hasPrefix rest [91] then
    (let x := elemN rest
     if x.2.2 = 0 then .error (7, e) else if x.1 ≠ 2 ∧ 64 < x.2.1.length then .error (2, e + 1) else .ok (⟨x.1, t, x.2.1⟩, e + x.2.2))
  else if Lib.hasPrefix rest [45, 62] then
    (let n := wordN (rest.drop 2)
     if n = 0 then .ok (⟨1, t, []⟩, e) else if 64 < n then .error (2, e + 2) else .ok (⟨5, t, (rest.drop 2).take n⟩, e + 2 + n))
  else .ok (⟨1, t, []⟩, e)
def withText (parts : List Prt) (plain : L) : List Prt := if plain = [] then parts else parts ++ [⟨0, plain, []⟩]
/-- A wide text's bytes from a place on, with what came ahead. -/
def wideF : Nat → Bool → List Prt → L → Nat → L → R (List Prt × L)
  | 0, _, parts, plain, _, _ => .ok (parts, plain)
  | f + 1, q, parts, plain, at_, r =>
    match r with
    | [] => .ok (parts, plain)
    | b :: t =>
      if b = 92 then wideF f q parts (plain ++ [(escN r q).1]) (at_ + (escN r q).2) (r.drop (escN r q).2)
      else if b ≠ 36 ∨ wordN t = 0 then wideF f q parts (plain ++ [b]) (at_ + 1) t
      else match varPart r with
        | .error x => .error (x.1, at_ + x.2)
        | .ok x => wideF f q (withText parts plain ++ [x.1]) [] (at_ + x.2) (r.drop x.2)
def wideT (s : L) (q : Bool) : R Tk :=
  match wideF s.length q [] [] 0 s with
  | .error x => .error x
  | .ok (parts, plain) => if parts = [] then .ok (textT plain) else .ok ⟨6, [], 0, withText parts plain⟩

/-- The bytes ahead of the first line that begins with a name, and no longer word. -/
def linesGo (name : L) : Bool → L → Option Nat
  | st, [] => if st && (Lib.hasPrefix [] name && wordN [] == name.length) then some 0 else none
  | st, b :: r => if st && (Lib.hasPrefix (b :: r) name && wordN (b :: r) == name.length) then some 0 else (linesGo name (b == 10) r).map (· + 1)
def isLong (s : L) : Bool := Lib.hasPrefix s [60, 60, 60] && headOk s
def trimNl (s : L) : L := if Lib.hasSuffix s [10] then s.take (s.length - 1) else s
def longT (s : L) : R (Tk × Nat) :=
  match linesGo (headName s) true (s.drop (headAt s)) with
  | none => .error (10, 0)
  | some n =>
    let ins := trimNl ((s.drop (headAt s)).take n)
    let size := headAt s + n + (headName s).length
    if quoteN s = 1 then .ok (textT ins, size) else
    match wideT ins false with
    | .error x => .error (x.1, headAt s + x.2)
    | .ok t => .ok (t, size)

/-- The token at the beginning, and how many bytes it has; or what is wrong, and where. -/
def tokT (s : L) : R (Tk × Nat) :=
  match s with
  | [] => .error (7, 0)
  | b :: r =>
    if b = 36 then (if wordN r = 0 then .error (7, 0) else if 64 < wordN r then .error (2, 0) else .ok (⟨2, r.take (wordN r), 0, []⟩, 1 + wordN r))
    else if digB b then
      (if ((s.drop (numN s)).head?.map wordB).getD false then .error (11, 0) else if 2 ^ 63 ≤ valN (numBase s) (numDigits s) then .error (11, 0) else .ok (⟨4, [], valN (numBase s) (numDigits s), []⟩, numN s))
    else if b = 39 then (match endGo 39 r with | none => .error (10, 0) | some e => .ok (textT (plainGo (r.take e)), e + 2))
    else if b = 34 then
      (match endGo 34 r with
       | none => (match wideT r true with | .error x => .error (x.1, 1 + x.2) | .ok _ => .error (10, 0))
       | some e => (match wideT (r.take e) true with | .error x => .error (x.1, 1 + x.2) | .ok t => .ok (t, e + 2)))
    else if b = 92 || wordB b then
      (if !(nameN s).2 then .error (7, (nameN s).1) else if 64 < (nameN s).1 then .error (2, 0)
       else if keyB (s.take (nameN s).1) then .ok (signT ((s.take (nameN s).1).map low), (nameN s).1) else .ok (⟨3, s.take (nameN s).1, 0, []⟩, (nameN s).1))
    else if isLong s then longT s
    else if signN s = 0 then .error (7, 0) else .ok (signT (s.take (signN s)), signN s)

/-- The tokens of code, from a place on. -/
def codeF : Nat → Nat → L → R (List (Tk × Nat))
  | 0, _, _ => .ok []
  | f + 1, a, r =>
    let g := gapN r
    let r' := r.drop g.1
    if g.2 then .error (10, a + g.1) else if r'.isEmpty then .ok [] else
    match tokT r' with
    | .error x => .error (x.1, a + g.1 + x.2)
    | .ok x => match codeF f (a + g.1 + x.2) (r'.drop x.2) with
      | .error y => .error y
      | .ok l => .ok ((x.1, a + g.1) :: l)
def codeT (a : Nat) (r : L) : R (List (Tk × Nat)) := codeF (r.length + 1) a r
end Go.Proofs.YtjcldgogjgchiaaGreatDoor.Wording
