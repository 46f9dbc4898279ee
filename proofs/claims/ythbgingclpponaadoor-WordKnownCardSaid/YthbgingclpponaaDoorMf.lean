/- Plain mathematics: names of operations. -/
import Derived.Test.YthbgingclpponaaDoorMb
import Derived.Maps.Own
import Derived.Maps.OwnSet
import Derived.Maps.Views
import Derived.KernelRfl
namespace Go.Proofs.YthbgingclpponaaDoor
open Go.RowKit
/-- the operation of a name -/
def opOf (l : List UInt8) : Option Nat := (List.range 12).find? fun k => nameL (k : Nat) == l
theorem opOf_first {l : List UInt8} (k : Nat) (hk : k < 12) (h : nameL (k : Nat) = l) (hn : ∀ j : Nat, j < k → nameL (j : Nat) ≠ l) : opOf l = some k := by
  unfold opOf
  rw [List.find?_range_eq_some]
  exact ⟨by simp [h], by simpa using hk, fun j hj => by simpa using hn j hj⟩
theorem opOf_none {l : List UInt8} (hn : ∀ j : Nat, j < 12 → nameL (j : Nat) ≠ l) : opOf l = none := by
  unfold opOf
  rw [List.find?_range_eq_none]
  exact fun j hj => by simpa using hn j hj
def opN (l : List UInt8) : Int := match opOf l with | some k => k | none => 0
def opX (l : List UInt8) : Int := match opOf l with | some _ => 0 | none => 4
def opD {H : Type} : DataW H :=
  ((((((((((((DataW.map []).put (.string [43]) (.lit (.int .i64 0))).put (.string [45]) (.lit (.int .i64 1))).put (.string [42]) (.lit (.int .i64 2))).put (.string [47]) (.lit (.int .i64 3))).put (.string [37]) (.lit (.int .i64 4))).put (.string [60]) (.lit (.int .i64 5))).put (.string [61]) (.lit (.int .i64 6))).put (.string [109, 105, 110]) (.lit (.int .i64 7))).put (.string [109, 97, 120]) (.lit (.int .i64 8))).put (.string [38]) (.lit (.int .i64 9))).put (.string [124]) (.lit (.int .i64 10))).put (.string [94]) (.lit (.int .i64 11))
def opL {H : Type} : List (Lit × DataW H) := [(.string [37], .lit (.int .i64 4)), (.string [38], .lit (.int .i64 9)), (.string [42], .lit (.int .i64 2)), (.string [43], .lit (.int .i64 0)), (.string [45], .lit (.int .i64 1)), (.string [47], .lit (.int .i64 3)), (.string [60], .lit (.int .i64 5)), (.string [61], .lit (.int .i64 6)), (.string [94], .lit (.int .i64 11)), (.string [109, 97, 120], .lit (.int .i64 8)), (.string [109, 105, 110], .lit (.int .i64 7)), (.string [124], .lit (.int .i64 10))]
theorem opD_eq {H : Type} : (opD : DataW H) = .map opL := by kernel_rfl
theorem opD_look {H : Type} (l : List UInt8) : Maps.has (opD : DataW H) (.string l) = (opOf l).isSome ∧ (opD : DataW H).atKey (.string l) (.lit (.int .i64 0)) = .lit (.int .i64 (opN l)) := by
  rw [opD_eq]
  by_cases h : ∃ k : Nat, k < 12 ∧ nameL (k : Nat) = l
  · obtain ⟨k, hk, h⟩ := h
    have : k = 0 ∨ k = 1 ∨ k = 2 ∨ k = 3 ∨ k = 4 ∨ k = 5 ∨ k = 6 ∨ k = 7 ∨ k = 8 ∨ k = 9 ∨ k = 10 ∨ k = 11 := by omega
    rcases this with e | e | e | e | e | e | e | e | e | e | e | e <;> subst e <;> rw [← h] <;> exact ⟨rfl, rfl⟩
  · have hn : ∀ j : Nat, j < 12 → nameL (j : Nat) ≠ l := fun j hj e => h ⟨j, hj, e⟩
    have e0 := opOf_none hn
    have h0 := hn 0 (by omega); have h1 := hn 1 (by omega); have h2 := hn 2 (by omega); have h3 := hn 3 (by omega)
    have h4 := hn 4 (by omega); have h5 := hn 5 (by omega); have h6 := hn 6 (by omega); have h7 := hn 7 (by omega)
    have h8 := hn 8 (by omega); have h9 := hn 9 (by omega); have h10 := hn 10 (by omega); have h11 := hn 11 (by omega)
    simp [nameL] at h0 h1 h2 h3 h4 h5 h6 h7 h8 h9 h10 h11
    have b : ∀ x : List UInt8, ¬ x = l → (x == l) = false := fun x hx => beq_eq_false_iff_ne.2 hx
    simp [opN, e0, Maps.has, DataW.atKey, opL, Lit.sameKey, List.find?, b _ h0, b _ h1, b _ h2, b _ h3, b _ h4, b _ h5, b _ h6, b _ h7, b _ h8, b _ h9, b _ h10, b _ h11]
end Go.Proofs.YthbgingclpponaaDoor
