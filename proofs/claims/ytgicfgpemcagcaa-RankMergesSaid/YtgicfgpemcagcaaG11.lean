/- Walks and mathematics of rank, part 11. -/
import Derived.Test.YtgicfgpemcagcaaG01
import Derived.Test.YtgicfgpemcagcaaG10
import Derived.Deep.OwnRows
import Derived.Test.YtgicfgpemcagcaaG09
import Derived.Laws.AppendOwnNone
import Derived.Deep.QuietTactic
import Derived.BigQuiet
/- Plain mathematics of layer 5: words joined in order, segments. No program. -/
namespace Go.Proofs.Ytgicfgpemcagcaa
set_option linter.unusedVariables false
open Go.RowKit
/-- What comes of joining the first k of a list to a number, one after the other. -/
def scN (j : Int → Int → Int) (x : Int) (l : List Int) : Nat → Int
  | 0 => x
  | k + 1 => j (scN j x l k) (nth l k)
/-- Of none of them, of the first one, and so on, up to all. -/
def inL (j : Int → Int → Int) (x : Int) (l : List Int) : List Int := mk (scN j x l) (l.length + 1)
theorem inL_length (j : Int → Int → Int) (x : Int) (l : List Int) : (inL j x l).length = l.length + 1 := mk_length _ _
theorem scN_congr {j : Int → Int → Int} {x : Int} {l m : List Int} {k : Nat} (h : ∀ i, i < k → nth l i = nth m i) : scN j x l k = scN j x m k := by
  induction k with
  | zero => rfl
  | succ k ih => simp only [scN]; rw [ih fun i hi => h i (by omega), h k (by omega)]
theorem mk_set (f : Nat → Int) (n k : Nat) (z : Int) (hk : k < n) : (mk f k ++ List.replicate (n - k) z).set k (f k) = mk f (k + 1) ++ List.replicate (n - (k + 1)) z := by
  rw [mk_succ, List.set_append_right _ _ (by rw [mk_length]; exact Nat.le_refl _), mk_length, Nat.sub_self, show n - k = (n - (k + 1)) + 1 by omega, List.replicate_succ, List.set_cons_zero, List.append_assoc]
  rfl
theorem mk_take (f : Nat → Int) (n k : Nat) (h : k ≤ n) : (mk f n).take k = mk f k := by
  apply eq_of_nth (by rw [List.length_take, mk_length, mk_length]; omega)
  intro i hi
  rw [List.length_take, mk_length] at hi
  rw [nth_take _ _ _ (by omega), nth_mk _ _ _ (by omega), nth_mk _ _ _ (by omega)]
theorem mk_drop (f : Nat → Int) (n k : Nat) (h : k ≤ n) : (mk f n).drop k = mk (fun i => f (k + i)) (n - k) := by
  apply eq_of_nth (by rw [List.length_drop, mk_length, mk_length])
  intro i hi
  rw [List.length_drop, mk_length] at hi
  rw [nth_drop, nth_mk _ _ _ (by omega), nth_mk _ _ _ (by omega)]
/-- All words joined; those ahead of each; those up to each. -/
def whL (j : Int → Int → Int) (x : Int) (l : List Int) : List Int := [scN j x l l.length]
def ahL (j : Int → Int → Int) (x : Int) (l : List Int) : List Int := mk (scN j x l) l.length
def upL' (j : Int → Int → Int) (x : Int) (l : List Int) : List Int := mk (fun k => scN j x l (k + 1)) l.length
theorem inL_last (j : Int → Int → Int) (x : Int) (l : List Int) : (inL j x l).drop l.length = whL j x l := by
  unfold inL; rw [mk_drop _ _ _ (by omega), show l.length + 1 - l.length = 1 by omega]; rfl
theorem inL_ahead (j : Int → Int → Int) (x : Int) (l : List Int) : (inL j x l).take l.length = ahL j x l := by
  unfold inL; rw [mk_take _ _ _ (by omega)]; rfl
theorem inL_upTo (j : Int → Int → Int) (x : Int) (l : List Int) : (inL j x l).drop 1 = upL' j x l := by
  unfold inL; rw [mk_drop _ _ _ (by omega)]
  unfold upL'
  rw [show l.length + 1 - 1 = l.length by omega]
  exact mk_congr fun k hk => by rw [Nat.add_comm]
/-- Where the segment i begins, as a place. -/
def ofs (lens : List Int) (i : Nat) : Nat := (psum lens i).toNat
/-- The segment i. -/
def sgL (l lens : List Int) (i : Nat) : List Int := (l.drop (ofs lens i)).take (ofs lens (i + 1) - ofs lens i)
/-- What is kept of the first i segments. -/
def kpK (f : List Int → List Int) (l lens : List Int) : Nat → List Int
  | 0 => []
  | i + 1 => kpK f l lens i ++ f (sgL l lens i)
/-- Lengths whose total is that of the list. -/
structure Segs (l lens : List Int) : Prop where
  pos : posB lens = true
  few : lens.length ≤ 1048576
  short : l.length ≤ 1048576
  sum : lens.sum = l.length
theorem Segs.ofs {l lens : List Int} (h : Segs l lens) (i : Nat) (hi : i ≤ lens.length) : ((ofs lens i : Nat) : Int) = psum lens i ∧ 0 ≤ psum lens i ∧ psum lens i ≤ l.length := by
  have h1 := psum_mono lens h.pos 0 i (by omega) hi
  have h2 := psum_mono lens h.pos i lens.length hi (Nat.le_refl _)
  rw [psum_zero] at h1
  rw [psum_all, h.sum] at h2
  unfold Go.Proofs.Ytgicfgpemcagcaa.ofs
  exact ⟨by omega, h1, h2⟩
theorem Segs.step {l lens : List Int} (h : Segs l lens) (i : Nat) (hi : i < lens.length) : ((Go.Proofs.Ytgicfgpemcagcaa.ofs lens (i + 1) : Nat) : Int) = Go.Proofs.Ytgicfgpemcagcaa.ofs lens i + nth lens i ∧ Go.Proofs.Ytgicfgpemcagcaa.ofs lens i ≤ Go.Proofs.Ytgicfgpemcagcaa.ofs lens (i + 1) ∧ Go.Proofs.Ytgicfgpemcagcaa.ofs lens (i + 1) ≤ l.length ∧ 0 ≤ nth lens i ∧ nth lens i ≤ l.length := by
  obtain ⟨h1, h2, h3⟩ := h.ofs i (by omega)
  obtain ⟨g1, g2, g3⟩ := h.ofs (i + 1) (by omega)
  have h4 := psum_succ lens i hi
  have h5 := posB_of h.pos i hi
  omega
theorem Segs.seg_length {l lens : List Int} (h : Segs l lens) (i : Nat) (hi : i < lens.length) : (sgL l lens i).length = (nth lens i).toNat := by
  obtain ⟨h1, h2, h3, h4, h5⟩ := h.step i hi
  unfold sgL
  rw [List.length_take, List.length_drop]; omega
theorem seg_nth (l lens : List Int) (i k : Nat) (hk : k < (sgL l lens i).length) : nth (sgL l lens i) k = nth l (ofs lens i + k) := by
  unfold sgL at *
  rw [List.length_take, List.length_drop] at hk
  rw [nth_take _ _ _ (by omega), nth_drop]
theorem kp_len_one {f : List Int → List Int} (hf : ∀ s, (f s).length = 1) (l lens : List Int) (i : Nat) : (kpK f l lens i).length = i := by
  induction i with
  | zero => rfl
  | succ i ih => simp only [kpK]; rw [List.length_append, ih, hf]
theorem Segs.kp_len {f : List Int → List Int} (hf : ∀ s, (f s).length = s.length) {l lens : List Int} (h : Segs l lens) (i : Nat) (hi : i ≤ lens.length) : (kpK f l lens i).length = Go.Proofs.Ytgicfgpemcagcaa.ofs lens i := by
  induction i with
  | zero => rfl
  | succ i ih =>
    simp only [kpK]
    rw [List.length_append, ih (by omega), hf, h.seg_length i (by omega)]
    have := h.step i (by omega)
    omega
theorem ofs_zero (lens : List Int) : ofs lens 0 = 0 := by unfold ofs; rw [psum_zero]; rfl
theorem Segs.ofs_all {l lens : List Int} (h : Segs l lens) : Go.Proofs.Ytgicfgpemcagcaa.ofs lens lens.length = l.length := by
  unfold Go.Proofs.Ytgicfgpemcagcaa.ofs; rw [psum_all, h.sum]; omega
/-- The three parts that are kept. -/
def keepL (n : Nat) (j : Int → Int → Int) (x : Int) : List Int → List Int := fun s => if n = 0 then whL j x s else if n = 1 then ahL j x s else upL' j x s
end Go.Proofs.Ytgicfgpemcagcaa
/- Walks of scan: inOrder on words, from, and the three parts that are kept. -/
namespace Go.Proofs.Ytgicfgpemcagcaa
set_option linter.unusedVariables false
set_option maxRecDepth 100000
open Go.RowKit
theorem ret_val {u v : Value} (h : u = v) : Ending.returned u = .returned v := by rw [h]
/-- 'Returned a list that lies in what came in'. -/
def Cutwhole (w : World) (zs : List Int) (e : Ending) (w' : World) : Prop := ∃ b off c', e = .returned (.slice (some ⟨b, off, none⟩) zs.length c') ∧ zs.length ≤ c' ∧ Sl w (some ⟨b, off, none⟩) zs ∧ w = w'
/-- 'Returned a list that lies in what came in'. -/
def Cutahead (w : World) (zs : List Int) (e : Ending) (w' : World) : Prop := ∃ b off c', e = .returned (.slice (some ⟨b, off, none⟩) zs.length c') ∧ zs.length ≤ c' ∧ Sl w (some ⟨b, off, none⟩) zs ∧ w = w'
/-- 'Returned a list that lies in what came in'. -/
def CutupTo (w : World) (zs : List Int) (e : Ending) (w' : World) : Prop := ∃ b off c', e = .returned (.slice (some ⟨b, off, none⟩) zs.length c') ∧ zs.length ≤ c' ∧ Sl w (some ⟨b, off, none⟩) zs ∧ w = w'
end Go.Proofs.Ytgicfgpemcagcaa
/- Walks of the specification: Words, Lists, alike, counts, Sum, fits, Copy, Upto. -/
namespace Go.Proofs.Ytgicfgpemcagcaa
set_option linter.unusedVariables false
open Go.RowKit Go.Shelf

theorem isword_b (n : Int) (w : World) (b : Bool) (h : isWb n = b) : Calls Try.prog 79 #[.int .i64 n] w fun e w' => e = .returned (.bool b) ∧ w = w' := h ▸ isword_any n w
set_option maxHeartbeats 1000000 in
theorem words_any (A : Option Addr) (c : Nat) (zs : List Int) (w : World) (h : Sl w A zs) (hl : zs.length ≤ 9223372036854775807) :
    Calls Try.prog 61 #[.slice A zs.length c] w fun e w' => e = .returned (.bool (wordsB zs)) ∧ w = w' := by
  go_enter Try.func61, Try.ntmps61
  go_wp2
  go_loop [3] (fun i => ∃ k : Nat, k ≤ zs.length ∧ i = .int .i64 k ∧ ∀ j, j < k → isWb (nth zs j) = true) (fun i => zs.length - (intOf i).toNat)
  case atStart => exact ⟨0, Nat.zero_le _, rfl, fun j hj => by omega⟩
  case round =>
    obtain ⟨k, hk, rfl, hq⟩ := hrel
    have HQ := Lib.hid hq; clear hq
    by_cases hlt : k < zs.length
    · obtain ⟨b, off, rfl, hb, hc⟩ := h.at_ hlt
      have HN := Lib.hid (all_not zs isWb (nth zs) (nth_eq zs) k hlt)
      have hk1 : (0 : Int) ≤ (k : Int) := by omega
      have hk2 : (k : Int) < (zs.length : Int) := by omega
      obtain ⟨z, hz⟩ : ∃ z, nth zs k = z := ⟨_, rfl⟩
      have HZ := Lib.hid hz
      rw [hz] at hc HN
      clear hz
      cases hpz : isWb z with
      | true =>
        have C := Lib.hid (isword_b z w _ hpz)
        have HT := Lib.hid hpz
        clear hpz
        go_wp2_with fail
        refine C.out.mono ?_
        rintro e w' ⟨rfl, rfl⟩
        go_wp2
        go_round
        case rel => exact ⟨k + 1, by omega, by go_num, fun j hj => by
                by_cases e : j = k
                · subst e; rw [HZ.out]; exact HT.out
                · exact HQ.out j (by omega)⟩
        case measure => simp [intOf]; omega
      | false =>
        have C := Lib.hid (isword_b z w _ hpz)
        have HT := Lib.hid (show wordsB zs = false from HN.out hpz)
        clear hpz
        go_wp2_with fail
        refine C.out.mono ?_
        rintro e w' ⟨rfl, rfl⟩
        go_wp2
        go_ret
        exact ⟨ret_bool HT.out.symm, rfl⟩
    · obtain rfl : k = zs.length := by omega
      have HT := Lib.hid (show wordsB zs = true from all_of zs isWb (nth zs) (nth_eq zs) HQ.out)
      go_wp2
      go_ret
      exact ⟨ret_bool HT.out.symm, rfl⟩

/-! ### counts, Sum -/
set_option maxHeartbeats 1000000 in
theorem bsum_any (A : Option Addr) (c : Nat) (zs : List Int) (w : World) (h : Sl w A zs) (hl : zs.length ≤ 1048576) (hw : ∀ j, j < zs.length → isW (nth zs j)) :
    Calls Try.prog 41 #[.slice A zs.length c] w fun e w' => e = .returned (.int .i64 zs.sum) ∧ w = w' := by
  have HB := Lib.hid (sum_bound zs hw)
  have HW := Lib.hid hw
  have HS := Lib.hid (psum_all zs)
  clear hw
  go_enter Try.func41, Try.ntmps41
  go_wp2
  go_loop [3, 4] (fun t i => ∃ k : Nat, k ≤ zs.length ∧ i = .int .i64 k ∧ t = .int .i64 (psum zs k)) (fun _ i => zs.length - (intOf i).toNat)
  case atStart => exact ⟨0, Nat.zero_le _, rfl, by rw [psum_zero]⟩
  case round =>
    obtain ⟨k, hk, rfl, rfl⟩ := hrel
    have hb := HB.out k hk
    by_cases hlt : k < zs.length
    · obtain ⟨bl, off, rfl, hbl, hc⟩ := h.at_ hlt
      have hs' := Lib.hid (psum_succ zs k hlt)
      have h2 := HW.out k hlt
      unfold isW at h2
      go_wp2
      go_round
      case rel => exact ⟨k + 1, by omega, by go_num, by rw [hs'.out]⟩
      case measure => simp [intOf]; omega
    · obtain rfl : k = zs.length := by omega
      go_wp2
      go_ret
      exact ⟨ret_int HS.out, rfl⟩
theorem tot_pos {l : List Int} (h : posB l = true) (h1 : 1048576 < l.sum) : totE l = 9 := by unfold totE; rw [if_pos h, if_pos h1]
theorem tot_fine {l : List Int} (h : posB l = true) (h1 : ¬ 1048576 < l.sum) : totE l = 0 := by unfold totE; rw [if_pos h, if_neg h1]
end Go.Proofs.Ytgicfgpemcagcaa
