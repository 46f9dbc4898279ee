/- slices.BinarySearch, laid at this program. -/
import Derived.Shelf.Slices.SearchI
import Derived.Shelf.Slices.Empties
import Derived.Ground.Names2Prog
import Derived.Test.YtcbkocjpkdcpfaaMf
import Derived.Test.YtcbkocjpkdcpfaaShelf
namespace Go.Proofs.Ytcbkocjpkdcpfaa
set_option linter.unusedVariables false
open Go.RowKit Go.Shelf

theorem search_any (A : Option Addr) (c : Nat) (zs : List Int) (x : Int) (w : World) (h : Sl w A zs) (hl : zs.length ≤ 1048576) (hs : zs.Pairwise (· ≤ ·)) :
    Calls Try.prog 58 #[.slice A zs.length c, .int .i64 x] w fun e w' => (∃ f, e = .returned (.tuple #[.int .i64 (zs.countP (· < x) : Nat), .bool f])) ∧ ∃ q, w' = w.drewN q := by
  rcases Nat.eq_zero_or_pos zs.length with h0 | h0
  · have e := List.eq_nil_of_length_eq_zero h0
    subst e
    have hcon := Any.slices_BinarySearch_int_empty Try.lays25 A c x w
    change Calls Try.prog 58 _ _ _ at hcon
    refine hcon.mono ?_
    rintro e w' ⟨rfl, rfl⟩
    exact ⟨⟨_, rfl⟩, 0, rfl⟩
  · obtain ⟨b, off, rfl, hb, hc⟩ := h h0
    have hcon := Any.slices_BinarySearch_int Try.lays25 b off zs.length c zs x w (Nat.le_refl _) (by omega) (fun j hj => hc j hj) (by rw [List.take_length]; exact hs)
    change Calls Try.prog 58 _ _ _ at hcon
    rw [List.take_length] at hcon
    refine hcon.mono ?_
    rintro e w' ⟨rfl, q, rfl⟩
    exact ⟨⟨_, rfl⟩, q, rfl⟩
theorem count_pcK (cnt : List Int) (N s : Nat) (hs : s ≤ N) : (((pcK cnt N).countP (· < (s : Int)) : Nat) : Int) = adK cnt s := by
  obtain ⟨R, hR, hR2⟩ := pcK_split cnt s (N - s)
  rw [show s + (N - s) = N by omega] at hR
  rw [hR, List.countP_append, List.countP_eq_length.2 (fun a ha => by have := (pcK_lt cnt s a ha).2; simpa using this), List.countP_eq_zero.2 (fun a ha => by have := hR2 a ha; simp; omega), Nat.add_zero, pcK_length]
end Go.Proofs.Ytcbkocjpkdcpfaa
