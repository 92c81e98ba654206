/- Plain: logs, their bytes, and what is read of bytes. -/
import Derived.Test.YtokldcifhjkmnaaSumSealM
import Derived.Test.YtokldcifhjkmnaaWireUse
namespace Go.Proofs.Ytokldcifhjkmnaa.Lgg
open Go.Proofs.Ytokldcifhjkmnaa.Wir Go.Proofs.Ytokldcifhjkmnaa.Smm
open Go.WideShapes (bytes_inj)
set_option linter.unusedVariables false

/-- An entry: its number, its text. -/
structure En where
  tx : Int
  d : ByteArray
deriving DecidableEq
structure Lg where
  ep : Int
  es : List En
def maxN : Int := 9007199254740991
def epOk (n : Int) : Bool := decide (0 ≤ n) && decide (n ≤ maxN)
def enOk (i : Nat) (x : En) : Prop := x.tx = ((i + 1 : Nat) : Int) ∧ x.d.size ≤ 600
def RtE (es : List En) : Prop := ∀ i (h : i < es.length), enOk i es[i]
def RtL (l : Lg) : Prop := epOk l.ep = true ∧ l.es.length ≤ 300 ∧ RtE l.es
def numT (n : Int) : ByteArray := ⟨(numB n).toArray⟩
def encE (x : En) : ByteArray := sealB (numT x.tx ++ x.d)
def encEs : List En → ByteArray
  | [] => ⟨#[]⟩
  | x :: r => encE x ++ encEs r
def encL (l : Lg) : ByteArray := sealB (numT l.ep) ++ encEs l.es

/-- The number that a sealed part begins with, what is behind it, what is behind the part. -/
def takeP (b : ByteArray) : Option (Int × ByteArray × ByteArray) := match openT b with
  | (T, R, 0) => match takeZ 0 0 T.data.toList with
    | some (z, k) => some (Lib.unzigzag z, T.extract k T.size, R)
    | none => none
  | (_, _, _ + 1) => none
def epochP (b : ByteArray) : Option (Int × ByteArray) := match takeP b with
  | some (n, d, r) => if epOk n = true ∧ d.size = 0 then some (n, r) else none
  | none => none
def entryP (b : ByteArray) (i : Int) : Option (ByteArray × ByteArray) := match takeP b with
  | some (n, d, r) => if n = i ∧ d.size ≤ 600 then some (d, r) else none
  | none => none
def goL : Nat → List En → ByteArray → List En × ByteArray
  | 0, es, b => (es, b)
  | f + 1, es, b => match entryP b ((es.length + 1 : Nat) : Int) with
    | some (d, r) => goL f (es ++ [⟨((es.length + 1 : Nat) : Int), d⟩]) r
    | none => (es, b)
def parseL (b : ByteArray) : Option (Lg × ByteArray) := match epochP b with
  | some (n, r) => some (⟨n, (goL 300 [] r).1⟩, (goL 300 [] r).2)
  | none => none

theorem app_empty (a : ByteArray) : a ++ (⟨#[]⟩ : ByteArray) = a := bytes_inj (by rw [app_list]; simp)
theorem empty_app (a : ByteArray) : (⟨#[]⟩ : ByteArray) ++ a = a := bytes_inj (by rw [app_list]; simp)
theorem encEs_app (xs ys : List En) : encEs (xs ++ ys) = encEs xs ++ encEs ys := by
  induction xs with
  | nil => exact (empty_app _).symm
  | cons x xs ih => show encE x ++ encEs (xs ++ ys) = (encE x ++ encEs xs) ++ encEs ys; rw [ih, app_assoc]
theorem encEs_one (x : En) : encEs [x] = encE x := app_empty _
theorem numT_size {n : Int} (h0 : -9223372036854775808 ≤ n) (h1 : n ≤ 9223372036854775807) : (numT n).size ≤ 10 := by
  unfold numT; rw [mk_size]; exact numB_len h0 h1
end Go.Proofs.Ytokldcifhjkmnaa.Lgg
