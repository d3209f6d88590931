/- Plain words of layer 14: values, objects, heaps of them. No condition. -/
import Derived.Test.YtebeoganblcblaaKndT
import Derived.Test.YtebeoganblcblaaRowG
namespace Go.Proofs.Ytebeoganblcblaa
open Go.RowKit
set_option linter.unusedVariables false
set_option linter.unusedSimpArgs false

structure ValV where
  k : Int
  n : Int
  r : Int
deriving DecidableEq
instance : Inhabited ValV := ⟨⟨0, 0, 0⟩⟩
def valVa (v : ValV) : Value := .agg #[.int .i64 v.k, .int .i64 v.n, .int .i64 v.r]
def cellsVa (v : ValV) : List Value := [.int .i64 v.k, .int .i64 v.n, .int .i64 v.r]
theorem lenVa (v : ValV) : (cellsVa v).length = 3 := rfl
theorem info_val : (Try.prog.info? 34).map (fun i => (i.zero, i.size, i.bytes)) = some (some (.agg #[.int .i64 0, .int .i64 0, .int .i64 0]), 3, 24) := by kernel_rfl
theorem size_val : (Try.prog.info? 34).map (·.size) = some 3 := by kernel_rfl
/-- The first value of a type. -/
def firstZ (t : TypeV) : ValV := if t.k = 1 then ⟨1, 0, 0⟩ else if t.k = 2 then ⟨2, 0, 0⟩ else if t.k = 4 ∨ t.k = 5 ∨ t.k = 3 then ⟨3, 0, 0⟩ else ⟨0, 0, 0⟩
/-- An object: its type, and its values. -/
structure ObjV where
  t : TypeV
  vs : List ValV
instance : Inhabited ObjV := ⟨⟨zeroT, []⟩⟩
def isOb (n : Nat) (r : Int) : Bool := decide (1 ≤ r) && decide (r ≤ (n : Int))
/-- What the heap answers, in plain words. -/
def obZ (os : List ObjV) (r : Int) : ObjV := os.getD (r.toNat - 1) default
def typeZ14 (os : List ObjV) (r : Int) : TypeV × Int := if isOb os.length r then ((obZ os r).t, 0) else (zeroT, 6)
def lenZ14 (os : List ObjV) (r : Int) : Int := if isOb os.length r then (obZ os r).vs.length else 0
def getZ (os : List ObjV) (r i : Int) : ValV × Int :=
  if isOb os.length r then (if 0 ≤ i ∧ i < ((obZ os r).vs.length : Int) then ((obZ os r).vs.getD i.toNat default, 0) else (default, 1)) else (default, 6)
def putZ (os : List ObjV) (r i : Int) (v : ValV) : List ObjV := os.set (r.toNat - 1) ⟨(obZ os r).t, (obZ os r).vs.set i.toNat v⟩
def setZ (os : List ObjV) (r i : Int) (v : ValV) : List ObjV × Int :=
  if (getZ os r i).2 = 0 then (if (getZ os r i).1.k = v.k then (putZ os r i v, 0) else (os, 1)) else (os, (getZ os r i).2)
def makeZ (os : List ObjV) (most : Int) (t : TypeV) (l : List TypeV) : List ObjV × Int × Int :=
  if 1024 < l.length then (os, 0, 1) else if most ≤ (os.length : Int) then (os, 0, 140) else (os ++ [⟨t, l.map firstZ⟩], os.length + 1, 0)
def arrayZ (os : List ObjV) (most : Int) (t o : TypeV) (n : Int) : List ObjV × Int × Int :=
  if n < 0 then (os, 0, 1) else if 1024 < n ∨ most ≤ (os.length : Int) then (os, 0, 140) else (os ++ [⟨t, List.replicate n.toNat (firstZ o)⟩], os.length + 1, 0)
end Go.Proofs.Ytebeoganblcblaa
