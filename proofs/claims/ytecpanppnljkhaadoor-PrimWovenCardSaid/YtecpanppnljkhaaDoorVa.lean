/- Bounds of the lists that the laws compare. -/
import Derived.Test.YtecpanppnljkhaaDoorSb
namespace Go.Proofs.YtecpanppnljkhaaDoor
set_option linter.unusedVariables false
open Go.RowKit Go.Shelf
theorem len_orL {e : Int} {l : List Int} (h : e = 0 → l.length ≤ 9223372036854775807) : (orL e l).length ≤ 9223372036854775807 := by
  by_cases he : e = 0
  · subst he; exact h rfl
  · unfold orL; rw [if_neg he]; simp
theorem len_fill {n e : Int} {l : List Int} (k : Ok l) : (orL e (filL n l)).length ≤ 9223372036854775807 := len_orL fun _ => by
  unfold filL; rw [mk_length]; exact k
theorem len_bin {n e : Int} {a b : List Int} (k : Ok a) (k' : Ok b) : (orL e (binL n a b)).length ≤ 9223372036854775807 := len_orL fun _ => by
  unfold binL; rw [mk_length]; exact k
theorem len_pick {e : Int} {f a b : List Int} (k : Ok f) (k' : Ok a) (k'' : Ok b) : (orL e (picL f a b)).length ≤ 9223372036854775807 := len_orL fun _ => by
  unfold picL; rw [mk_length]; exact k
theorem len_off {e : Int} {a b : List Int} (k : Ok a) (k' : Ok b) : (orL e (offL a b)).length ≤ 9223372036854775807 := len_orL fun _ => by
  unfold offL; rw [mk_length]; exact k
theorem len_pack {e : Int} {f a : List Int} (k : Ok f) (k' : Ok a) : (orL e (pacL f a)).length ≤ 9223372036854775807 := len_orL fun _ => by
  have := pacK_length f a f.length; unfold pacL; unfold Ok at k; omega
theorem len_merge {e : Int} {f a b : List Int} (k : Ok f) (k' : Ok a) (k'' : Ok b) : (orL e (merL f a b)).length ≤ 9223372036854775807 := len_orL fun _ => by
  unfold merL; rw [merK_length]; exact k
theorem len_gather {e : Int} {a p : List Int} (k : Ok a) (k' : Ok p) : (orL e (gatL a p)).length ≤ 9223372036854775807 := len_orL fun _ => by
  unfold gatL; rw [mk_length]; exact k'
theorem len_put {e : Int} {a p : List Int} (k : Ok a) (k' : Ok p) : (orL e (putL a p)).length ≤ 9223372036854775807 := len_orL fun _ => by
  unfold putL; rw [putK_length]; exact k
theorem len_rep {a t : List Int} (k : Ok a) (k' : Ok t) : (orL (repE a t) (repL a t)).length ≤ 9223372036854775807 := len_orL fun h => by
  unfold repE at h
  by_cases he : evE [a, t] = 0
  · rw [if_pos he] at h
    have ht := tot_ok h
    have hl : t.length = a.length := (evE_ok he).2 t (by simp)
    have h1 := repK_length (a := a) ht.1 t.length (Nat.le_refl _)
    have h2 := ht.2.2.2 t.length (Nat.le_refl _)
    unfold repL; rw [← hl]; omega
  · rw [if_neg he] at h; exact absurd h he
theorem len_iota {l : List Int} (k : Ok l) : (orL (iotE l) (iotL l)).length ≤ 9223372036854775807 := len_orL fun h => by
  unfold iotE at h
  by_cases he : lsE [l] = 0
  · rw [if_pos he] at h
    have ht := tot_ok h
    have h1 := iotK_length ht.1 l.length (Nat.le_refl _)
    have h2 := ht.2.2.2 l.length (Nat.le_refl _)
    unfold iotL; omega
  · rw [if_neg he] at h; exact absurd h he
theorem len_cat {a b : List Int} (k : Ok a) (k' : Ok b) : (orL (catE a b) (a ++ b)).length ≤ 9223372036854775807 := len_orL fun h => by
  unfold catE at h
  by_cases he : lsE [a, b] = 0
  · rw [if_pos he] at h
    by_cases h9 : 1048576 < a.length + b.length
    · rw [if_pos h9] at h; cases h
    · rw [List.length_append]; omega
  · rw [if_neg he] at h; exact absurd h he
theorem len_len {a : List Int} (k : Ok a) : (orL (lenE a) [(a.length : Int)]).length ≤ 9223372036854775807 := len_orL fun _ => by simp
theorem len_weave {L : List (List Int)} : (orL (weE L) (weL L)).length ≤ 9223372036854775807 := len_orL fun h => by
  unfold weE at h
  by_cases he : evE L = 0
  · rw [if_pos he] at h
    unfold weL
    rw [weK_length]
    by_cases h0 : L.length = 0
    · rw [h0]; omega
    · rw [if_neg h0] at h
      by_cases h9 : 1048576 < L.length * (L.headD []).length
      · rw [if_pos h9] at h; cases h
      · rw [Nat.mul_comm]; omega
  · rw [if_neg he] at h; exact absurd h he
end Go.Proofs.YtecpanppnljkhaaDoor
