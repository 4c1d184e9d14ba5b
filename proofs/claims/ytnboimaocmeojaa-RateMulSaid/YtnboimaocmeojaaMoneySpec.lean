/-
  Plain mathematics of package money: what its functions answer. No program text.
-/
import Derived.Lib.Hide
namespace Go.Proofs.Ytnboimaocmeojaa.money

def okMode (m : Int) : Bool := decide (0 ≤ m) && decide (m ≤ 5)
def beyond (n most : Int) : Bool := decide (most < n) || decide (n < -most)
/-- does rounding take the quotient q, with the rest r of d, one up in absolute value -/
def up (q r d : Int) (neg : Bool) (m : Int) : Bool :=
  if m = 0 then neg && decide (0 < r)
  else if m = 1 then !neg && decide (0 < r)
  else if m = 3 then decide (0 < r)
  else if m = 4 then decide (d - r ≤ r)
  else if m = 5 then decide (d - r < r) || (decide (r = d - r) && decide (q % 2 = 1))
  else false
def mag (q r d : Int) (neg : Bool) (m : Int) : Int := if up q r d neg m then q + 1 else q
def rnd (q r d : Int) (neg : Bool) (m : Int) : Int := if neg then -(mag q r d neg m) else mag q r d neg m
/-- the quotient of two numbers rounded -/
def quot (n d m : Int) : Int := rnd (n.natAbs / d.natAbs : Nat) (n.natAbs % d.natAbs : Nat) d.natAbs (decide (n < 0) != decide (d < 0)) m
def divR (n d m : Int) : Int × Int :=
  if !okMode m then (0, 1) else if d = 0 then (0, 12) else if beyond n 4611686018427387904 || beyond d 4611686018427387904 then (0, 3) else (quot n d m, 0)
def mulR (c x d m : Int) : Int × Int :=
  if !okMode m then (0, 1) else if d = 0 then (0, 12)
  else if beyond c 1000000000000000 || beyond x 1000000000 || beyond d 1000000000 then (0, 3)
  else if beyond (quot (c * x) d m) 1000000000000000 then (0, 3) else (quot (c * x) d m, 0)
def roundR (c u m : Int) : Int × Int :=
  if !okMode m then (0, 1) else if u < 1 then (0, 12)
  else if beyond c 1000000000000000 || decide (1000000000000000 < u) then (0, 3)
  else if beyond (quot c u m * u) 1000000000000000 then (0, 3) else (quot c u m * u, 0)
def sumFrom (n : Int) : List Int → Int × Int
  | [] => (n, 0)
  | a :: l => if beyond a 1000000000000000 || beyond (n + a) 1000000000000000 then (0, 3) else sumFrom (n + a) l
def sumR (l : List Int) : Int × Int := sumFrom 0 l

theorem mag_bounds (q r d : Int) (neg : Bool) (m : Int) : q ≤ mag q r d neg m ∧ mag q r d neg m ≤ q + 1 := by
  unfold mag; split <;> omega
end Go.Proofs.Ytnboimaocmeojaa.money
