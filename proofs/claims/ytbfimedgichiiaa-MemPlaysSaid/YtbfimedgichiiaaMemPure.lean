/-
  Plain words of ranges: names, which ranges are right by themselves, which clash; no program is named.
-/
import Derived.WalkKit
namespace Go.Proofs.Ytbfimedgichiiaa
set_option linter.unusedVariables false

def lowB (c : UInt8) : Bool := decide (97 ≤ c.toNat) && decide (c.toNat ≤ 122)
def namB (c : UInt8) : Bool := lowB c || (decide (48 ≤ c.toNat) && decide (c.toNat ≤ 57)) || decide (c = 95)
@[irreducible] def nameB (l : List UInt8) : Bool := !l.isEmpty && decide (l.length ≤ 31) && lowB (l[0]?.getD 0) && l.all namB
/-- A range: its name, where it begins, how many bytes it has, may it be written, may it be run. -/
structure Rg where
  nm : List UInt8
  fr : Int
  sz : Int
  wr : Bool
  ex : Bool
/-- Is a range right by itself? -/
@[irreducible] def rgB (r : Rg) : Bool := nameB r.nm && decide (16 ≤ r.fr) && decide (r.fr ≤ 4294967296) && decide (r.fr % 16 = 0) && decide (0 ≤ r.sz) && decide (r.sz ≤ 16777216) && decide (r.sz % 16 = 0) && decide (r.fr + r.sz ≤ 4294967296)
/-- Do two ranges clash: one name, or an address in common? -/
@[irreducible] def clB (r o : Rg) : Bool := decide (r.nm = o.nm) || decide ((if r.fr < o.fr then o.fr else r.fr) < (if r.fr + r.sz < o.fr + o.sz then r.fr + r.sz else o.fr + o.sz))
end Go.Proofs.Ytbfimedgichiiaa
