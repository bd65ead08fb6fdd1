/-
  keccak in plain words: lanes by number, rounds, what is taken in, what comes out.
-/
import Derived.Test.YtljhfccaoncjeaaDoorFlat
namespace Go.Proofs.YtljhfccaoncjeaaDoor.Ke
open Go.RowKit
set_option maxRecDepth 100000

abbrev U := BitVec 64
def nv (b : U) : Nat := b.toNat

def rotl (b : U) (k : Nat) : U := (b <<< k) ||| (b >>> (64 - k))

/-- A state: the lane (x, y) is that of x + 5 y. -/
abbrev St := Nat → U
def put (f : St) (i : Nat) (v : U) : St := fun j => if j = i then v else f j
def zeroSt : St := fun _ => 0

def col (f : St) (x : Nat) : U := f x ^^^ f (x + 5) ^^^ f (x + 10) ^^^ f (x + 15) ^^^ f (x + 20)
def both (f : St) (x : Nat) : U := col f ((x + 4) % 5) ^^^ rotl (col f ((x + 1) % 5)) 1
def theta (f : St) : St := fun i => f i ^^^ both f (i % 5)
def pathL : List Nat := [10, 7, 11, 17, 18, 3, 5, 16, 8, 21, 24, 4, 15, 23, 19, 13, 12, 2, 20, 14, 22, 9, 6, 1]
def pth (k : Nat) : Nat := pathL.getD k 0
def pre (k : Nat) : Nat := if k = 0 then 1 else pth (k - 1)
def turn (k : Nat) : Nat := (k + 1) * (k + 2) / 2
def rhoPi (f : St) : Nat → St
  | 0 => f
  | k + 1 => put (rhoPi f k) (pth k) (rotl (f (pre k)) (turn k % 64))
def chiAt (f : St) (i : Nat) : U := f i ^^^ (f (i / 5 * 5 + (i % 5 + 2) % 5) &&& ~~~ f (i / 5 * 5 + (i % 5 + 1) % 5))
def chi (f : St) : St := chiAt f
def bitRow (r : Nat) : Nat := if 255 < 2 * r then (2 * r - 256) ^^^ 113 else 2 * r
def rows : Nat → Nat
  | 0 => 1
  | n + 1 => bitRow (rows n)
def cst (r : Nat) : Nat → U
  | 0 => 0
  | j + 1 => if rows (7 * r + j) % 2 = 1 then cst r j ^^^ (1 <<< (2 ^ j - 1)) else cst r j
def roundK (f : St) (r : Nat) : St := let g := chi (rhoPi (theta f) 24); put g 0 (g 0 ^^^ cst r 7)
def roundsK (f : St) : Nat → St
  | 0 => f
  | r + 1 => roundK (roundsK f r) r
def perm (f : St) : St := roundsK f 24

def xorB (f : St) (p : Nat) (c : UInt8) : St := put f (p / 8) (f (p / 8) ^^^ (BitVec.ofNat 64 c.toNat <<< (8 * (p % 8))))
/-- A byte taken in. -/
def eat (s : St × Nat) (c : UInt8) : St × Nat := if s.2 + 1 = 136 then (perm (xorB s.1 s.2 c), 0) else (xorB s.1 s.2 c, s.2 + 1)
def eats (s : St × Nat) (b : List UInt8) : St × Nat := b.foldl eat s
def endK (s : St × Nat) (m : UInt8) : St := perm (xorB (xorB s.1 s.2 m) 135 128)
def byteK (f : St) (p : Nat) : UInt8 := UInt8.ofNat (nv (f (p / 8)) / 2 ^ (8 * (p % 8)))
def permN (f : St) : Nat → St
  | 0 => f
  | k + 1 => perm (permN f k)
def outK (f : St) (n : Nat) : List UInt8 := (List.range n).map fun i => byteK (permN f (i / 136)) (i % 136)
def fromK (b : List UInt8) (m : UInt8) (n : Nat) : List UInt8 := outK (endK (eats (zeroSt, 0) b) m) n
def sumK (b : List UInt8) : List UInt8 := fromK b 6 32
def digitK (n : Nat) : UInt8 := if n < 10 then UInt8.ofNat (48 + n) else UInt8.ofNat (87 + n)
def textK (l : List UInt8) : List UInt8 := l.flatMap fun c => [digitK (c.toNat / 16), digitK (c.toNat % 16)]
end Go.Proofs.YtljhfccaoncjeaaDoor.Ke
