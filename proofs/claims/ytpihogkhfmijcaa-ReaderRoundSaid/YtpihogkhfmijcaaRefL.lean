/- The document's MayLedger, of any ledger; LongFrags. -/
import Derived.Test.YtpihogkhfmijcaaMayF
namespace Go.Proofs.Ytpihogkhfmijcaa
open Go.RowKit Go.Maps Go.Shelf
/-- a ledger, and where its fragments lie -/
structure LgV where
  i : Int
  W : Int
  A : Int
  a : Option Addr
  c : Nat
  fs : List FV
  cl : Int
  last : Int
def LgV.arr (l : LgV) : Array Value := #[.int .u64 l.i, .int .i64 l.W, .int .i64 l.A, .slice l.a l.fs.length l.c, .int .i64 l.cl, .int .u64 l.last]
def LgV.val (l : LgV) : Value := .agg l.arr
/-- a ledger that may be -/
def LgV.May (l : LgV) : Prop := (1 ≤ l.i ∧ l.i ≤ 4611686018427387903) ∧ (1 ≤ l.A ∧ l.A ≤ l.W ∧ l.W ≤ 5) ∧ MayFr l.W l.fs ∧ ((l.cl = 0 ∧ l.last = 0) ∨ (l.cl = 1 ∧ l.last ≤ 8))
def LgPost (l : LgV) (w : World) (e : Ending) (w' : World) : Prop := ∃ R : Bool, e = .returned (.bool R) ∧ (R = true ↔ l.May) ∧ Below w.heap.size w w'
end Go.Proofs.Ytpihogkhfmijcaa
