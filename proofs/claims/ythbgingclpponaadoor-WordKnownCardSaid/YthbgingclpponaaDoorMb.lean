/- Plain mathematics: what each call returns, as functions of the arguments. -/
import Derived.Test.YthbgingclpponaaDoorMa
import Derived.Lib.ItoaNum
namespace Go.Proofs.YthbgingclpponaaDoor
open Go.RowKit

def aB (op : Int) : Bool := decide (op = 0 ∨ op = 2 ∨ (7 ≤ op ∧ op ≤ 11))
def cB (op : Int) : Bool := decide (op = 0 ∨ op = 2 ∨ op = 6 ∨ (7 ≤ op ∧ op ≤ 11))
def iB (op : Int) : Bool := decide (7 ≤ op ∧ op ≤ 10)
def opE (op : Int) : Int := if isOpb op = true then 0 else 1
def nt (op : Int) : Int := if op = 2 then 1 else if op = 7 then 2147483647 else if op = 8 then -2147483648 else if op = 9 then -1 else 0
def neN (op : Int) : Int := if aB op = true then nt op else 0
def neE (op : Int) : Int := if isOpb op = true then (if aB op = true then 0 else 4) else 1
def doN (op a b : Int) : Int := if isOpb op = true ∧ isWb a = true ∧ isWb b = true ∧ trapsb op b = false then V op a b else 0
def doE (op a b : Int) : Int := if isOpb op = true then (if isWb a = true ∧ isWb b = true then (if trapsb op b = true then 14 else 0) else 2) else 1
theorem aB_op {op : Int} (h : aB op = true) : isOpb op = true := by rw [isOpb_iff]; simp [aB] at h; omega
theorem isOpb_not_aB {op : Int} (h : isOpb op = false) : aB op = false := by
  rw [← Bool.not_eq_true]; intro e; rw [aB_op e] at h; cases h
theorem isOpb_not_cB {op : Int} (h : isOpb op = false) : cB op = false := by
  have h' : ¬ (0 ≤ op ∧ op ≤ 11) := by rw [← isOpb_iff, h]; simp
  rw [← Bool.not_eq_true]; simp [cB]; omega
theorem isOpb_not_iB {op : Int} (h : isOpb op = false) : iB op = false := by
  have h' : ¬ (0 ≤ op ∧ op ≤ 11) := by rw [← isOpb_iff, h]; simp
  rw [← Bool.not_eq_true]; simp [iB]; omega

def nameL (op : Int) : List UInt8 :=
  if op = 0 then [43] else if op = 1 then [45] else if op = 2 then [42] else if op = 3 then [47] else if op = 4 then [37]
  else if op = 5 then [60] else if op = 6 then [61] else if op = 7 then [109, 105, 110] else if op = 8 then [109, 97, 120]
  else if op = 9 then [38] else if op = 10 then [124] else if op = 11 then [94] else []
def keyN (n : Int) : Int := if isWb n = true then n + 2147483648 else 0
def wE (n : Int) : Int := if isWb n = true then 0 else 2
def ofKeyN (k : Int) : Int := if 0 ≤ k ∧ k ≤ 4294967295 then k - 2147483648 else 0
def ofKeyE (k : Int) : Int := if 0 ≤ k ∧ k ≤ 4294967295 then 0 else 2
def textL (n : Int) : List UInt8 := if isWb n = true then Lib.itoa n else []
end Go.Proofs.YthbgingclpponaaDoor
