/- The tables of the rounds out of the roots of primes, as plain functions; that they are the tables, by the kernel. -/
import Derived.Test.YtminjelnbnajhaaDoorSpec
namespace Go.Proofs.YtminjelnbnajhaaDoor
open Go
/-- A word out of a list of numbers. -/
def rd (l : List Nat) (j : Nat) : Nat := l.getD j 0 % 4294967296
/-- A product's step, as the program makes it: in 64 bits. -/
def mad (x y o c : Nat) : Nat := (((x * y) % 18446744073709551616 + o) % 18446744073709551616 + c) % 18446744073709551616
/-- The inner loop: k steps of the row of the word x; what is written, and the carry. -/
def inner (x : Nat) (b out : List Nat) (i : Nat) : Nat → List Nat × Nat
  | 0 => (out, 0)
  | k + 1 => match inner x b out i k with
    | (o, c) => (o.set (i + k) (mad x (rd b k) (rd o (i + k)) c), mad x (rd b k) (rd o (i + k)) c / 4294967296)
/-- The outer loop. -/
def outer (a b : List Nat) : Nat → List Nat
  | 0 => List.replicate (a.length + b.length) 0
  | i + 1 => match inner (rd a i) b (outer a b i) i b.length with
    | (o, c) => o.set (i + b.length) c
def timesL (a b : List Nat) : List Nat := outer a b a.length
/-- What the word n is held against. -/
def want (p at_ n : Nat) : Nat := if n = at_ then p % 4294967296 else 0
/-- Above, from the highest word down: n words are left. -/
def aboveL (s : List Nat) (p at_ : Nat) : Nat → Bool
  | 0 => false
  | n + 1 => if rd s n = want p at_ n then aboveL s p at_ n else decide (want p at_ n < rd s n)
def aboveS (x : List Nat) (p : Nat) : Bool → Bool
  | true => aboveL (timesL (timesL (x.take 2) (x.take 2)) (x.take 2)) p 3 6
  | false => aboveL (timesL (x.take 2) (x.take 2)) p 2 4
/-- The number with one bit more. -/
def setBit (x : List Nat) (bit : Nat) : List Nat := x.set (bit / 32) (rd x (bit / 32) ||| (1 <<< (bit % 32)))
/-- The root behind the bits 36 down to n. -/
def rootS (p : Nat) (cube : Bool) : Nat → List Nat
  | 0 => [0, 0, 0, 0]
  | n + 1 => if aboveS (setBit (rootS p cube n) (36 - n)) p cube then rootS p cube n else setBit (rootS p cube n) (36 - n)
def rootW (p : Nat) (cube : Bool) : Nat := rd (rootS p cube 37) 0
/-- The primes among the first m numbers from 2 on. -/
def primesTo : Nat → List Nat
  | 0 => []
  | m + 1 => if (primesTo m).all (fun q => (2 + m) % q != 0) then primesTo m ++ [2 + m] else primesTo m
theorem primes310 : primesTo 310 = [2, 3, 5, 7, 11, 13, 17, 19, 23, 29, 31, 37, 41, 43, 47, 53, 59, 61, 67, 71, 73, 79, 83, 89, 97, 101, 103, 107, 109, 113, 127, 131, 137, 139, 149, 151, 157, 163, 167, 173, 179, 181, 191, 193, 197, 199, 211, 223, 227, 229, 233, 239, 241, 251, 257, 263, 269, 271, 277, 281, 283, 293, 307, 311] := by decide +kernel
theorem root2 : rootW 2 true = 1116352408 := by decide +kernel
end Go.Proofs.YtminjelnbnajhaaDoor
