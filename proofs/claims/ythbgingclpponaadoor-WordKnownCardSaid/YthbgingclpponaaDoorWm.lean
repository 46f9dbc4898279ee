/- Walks, part m: Text, Parse. -/
import Derived.Test.YthbgingclpponaaDoorWj
import Derived.Test.YthbgingclpponaaDoorWl
import Derived.Test.YthbgingclpponaaDoorShelf
import Derived.Lib.IndexBytes
namespace Go.Proofs.YthbgingclpponaaDoor
open Go.RowKit
set_option linter.unusedVariables false
theorem below_grow (w : World) (k : Nat) (os : Array Obj) : Below w.heap.size w (Sort.grow (w.drewN k) os) :=
  ⟨rfl, rfl, rfl, by show w.heap.size ≤ (w.heap ++ os).size; simp, fun i hi => by show (w.heap ++ os)[i]? = w.heap[i]?; rw [Array.getElem?_append_left hi]⟩
theorem text_any (n : Int) (w : World) (hI : Inv w) : Calls Tryd.prog 30 #[.int .i64 n] w (Ret (.tuple #[.string ⟨(textL n).toArray⟩, .int .i64 (wE n)]) w) := by
  by_cases h : isWb n = true
  · have hw := (isWb_iff n).1 h
    have HT : Hid (textL n = Lib.itoa n) := Lib.hid (by simp [textL, h])
    have HE : Hid (wE n = 0) := Lib.hid (by simp [wE, h])
    have H := Lib.hid h; clear h
    have HF := Lib.hid (Tryd.strconv_Itoa n (by unfold isW at hw; omega) (by unfold isW at hw; omega) w hI.tab)
    clear hw
    go_enter Tryd.func30, Tryd.ntmps30
    go_wp2_with fail
    refine (is_t n _ H.out).mono ?_
    rintro e w1 ⟨rfl, rfl⟩
    go_wp2_with fail
    refine HF.out.mono ?_
    rintro e w2 ⟨rfl, k, os, rfl⟩
    have HB := Lib.hid (below_grow w k os)
    generalize Sort.grow (w.drewN k) os = W2 at *
    go_wp2
    go_ret2
    exact ⟨by rw [HT.out, HE.out] <;> rfl, HB.out⟩
  · have HT : Hid (textL n = []) := Lib.hid (by simp [textL, h])
    have HE : Hid (wE n = 2) := Lib.hid (by simp [wE, h])
    have H := Lib.hid (bf h); clear h
    go_enter Tryd.func30, Tryd.ntmps30
    go_wp2_with fail
    refine (is_f n _ H.out).mono ?_
    rintro e w1 ⟨rfl, rfl⟩
    go_wp2
    go_ret2
    exact ⟨by rw [HT.out, HE.out] <;> rfl, Below.refl _ _⟩

/-! ### Parse -/
theorem neg_pre (l : List UInt8) : Lib.hasPrefix l [45] = isNeg l ∧ Lib.trimPrefix l [45] = digs l := by
  cases l with
  | nil => exact ⟨rfl, rfl⟩
  | cons b t =>
    by_cases h : b = 45
    · subst h; exact ⟨rfl, rfl⟩
    · have h1 : isNeg (b :: t) = false := by unfold isNeg; split; (rename_i e; cases e; exact absurd rfl h); rfl
      have h2 : digs (b :: t) = b :: t := by unfold digs; split; (rename_i e; cases e; exact absurd rfl h); rfl
      have h3 : Lib.hasPrefix (b :: t) [45] = false := by
        have : ((45 : UInt8) == b) = false := by rw [beq_eq_false_iff_ne]; exact fun e => h e.symm
        simp [Lib.hasPrefix, List.isPrefixOf, this]
      rw [h1, h2, h3]; exact ⟨rfl, by unfold Lib.trimPrefix; rw [h3]; rfl⟩
theorem par_no {l : List UInt8} (h : okB (isNeg l) (digs l) = false) : paN l = 0 ∧ paE l = 8 := by simp [paN, paE, prN, prE, h]
theorem par_yes {l : List UInt8} (h : okB (isNeg l) (digs l) = true) : paN l = sg (isNeg l) (val (digs l)) ∧ paE l = 0 := by simp [paN, paE, prN, prE, h]
theorem cut_any (s : ByteArray) (w : World) : Calls Tryd.prog 54 #[.string s, .string ⟨#[45]⟩] w fun e w' => e = .returned (.tuple #[.string ⟨(digs s.data.toList).toArray⟩, .bool (isNeg s.data.toList)]) ∧ w = w' :=
  (Tryd.strings_CutPrefix s ⟨#[45]⟩ w).mono fun e w' ⟨he, hw⟩ => ⟨by rw [he]; have := neg_pre s.data.toList; simp [this], hw.symm⟩
theorem mag_call (d : List UInt8) (hd : d.length ≤ maxLen) (w : World) : Calls Tryd.prog 55 #[.string ⟨d.toArray⟩] w (Ret (.tuple #[.int .i64 (magN d), .bool (magB d)]) w) :=
  (magnitude_any ⟨d.toArray⟩ (by simpa [ByteArray.size] using hd) w).mono fun e w' ⟨he, hw⟩ => ⟨by rw [he], hw⟩
theorem digs_len (l : List UInt8) : (digs l).length ≤ l.length := by unfold digs; split <;> simp
theorem parse_any (s : ByteArray) (hs : s.size ≤ maxLen) (w : World) : Calls Tryd.prog 32 #[.string s] w (Ret (.tuple #[.int .i64 (paN s.data.toList), .int .i64 (paE s.data.toList)]) w) := by
  have HD := Lib.hid (mag_call (digs s.data.toList) (by have := digs_len s.data.toList; have h2 : s.data.toList.length = s.size := (Lib.size_eq s).symm; omega) w)
  have HC := Lib.hid (cut_any s w)
  have hno := @par_no s.data.toList
  have hyes := @par_yes s.data.toList
  generalize s.data.toList = l at *
  by_cases hm : magB (digs l) = true
  · rw [show magN (digs l) = (val (digs l) : Int) from by simp [magN, hm], hm] at HD
    have hv : val (digs l) ≤ 2147483648 := by simp [magB] at hm; exact hm.2
    by_cases hb : isNeg l = true
    · by_cases hz : val (digs l) = 0
      · have HN := Lib.hid (hno (by simp [okB, hb, hz]))
        rw [hz] at HD
        rw [hb] at HC
        clear hno hyes hm hv hb hz
        go_enter Tryd.func32, Tryd.ntmps32
        go_wp2_with fail
        refine HC.out.mono ?_
        rintro e w1 ⟨rfl, rfl⟩
        go_wp2_with fail
        refine HD.out.mono ?_
        rintro e w2 ⟨rfl, hb2⟩
        go_wp2
        all_goals (go_ret2; exact ⟨by rw [HN.out.1, HN.out.2] <;> rfl, hb2⟩)
      · have hzB : ((val (digs l) : Int) == 0) = false := by rw [beq_eq_false_iff_ne]; omega
        have HYN := Lib.hid (show isWb (-(val (digs l) : Int)) = true → paN l = -(val (digs l) : Int) ∧ paE l = 0 from fun h => by have := hyes (by simp [okB, hm, hb, hz, sg, h]); simpa [hb, sg] using this)
        have hW : isWb (-(val (digs l) : Int)) = true := isWb_of _ (by unfold isW; omega)
        have HW := Lib.hid hW
        have HN := Lib.hid (HYN.out hW)
        rw [hb] at HC
        clear hno hyes hm hb hW
        generalize val (digs l) = v at *
        go_enter Tryd.func32, Tryd.ntmps32
        go_wp2_with fail
        refine HC.out.mono ?_
        rintro e w1 ⟨rfl, rfl⟩
        go_wp2_with fail
        refine HD.out.mono ?_
        rintro e w2 ⟨rfl, hb2⟩
        go_wp2_with fail
        refine (is_t _ _ HW.out).mono ?_
        rintro e w3 ⟨rfl, rfl⟩
        go_wp2
        all_goals (go_ret2; exact ⟨by rw [HN.out.1, HN.out.2] <;> rfl, hb2⟩)
    · have hb' := bf hb
      rw [hb'] at HC
      by_cases hw : isWb (val (digs l) : Int) = true
      · have HN := Lib.hid (show paN l = (val (digs l) : Int) ∧ paE l = 0 from by have := hyes (by simp [okB, hm, hb', sg, hw]); simpa [hb', sg] using this)
        have HW := Lib.hid hw
        clear hno hyes hm hb hb' hw
        generalize val (digs l) = v at *
        go_enter Tryd.func32, Tryd.ntmps32
        go_wp2_with fail
        refine HC.out.mono ?_
        rintro e w1 ⟨rfl, rfl⟩
        go_wp2_with fail
        refine HD.out.mono ?_
        rintro e w2 ⟨rfl, hb2⟩
        go_wp2_with fail
        refine (is_t _ _ HW.out).mono ?_
        rintro e w3 ⟨rfl, rfl⟩
        go_wp2
        all_goals (go_ret2; exact ⟨by rw [HN.out.1, HN.out.2] <;> rfl, hb2⟩)
      · have HN := Lib.hid (hno (by simp [okB, hb', sg, hw]))
        have HW := Lib.hid (bf hw)
        clear hno hyes hm hb hb' hw
        generalize val (digs l) = v at *
        go_enter Tryd.func32, Tryd.ntmps32
        go_wp2_with fail
        refine HC.out.mono ?_
        rintro e w1 ⟨rfl, rfl⟩
        go_wp2_with fail
        refine HD.out.mono ?_
        rintro e w2 ⟨rfl, hb2⟩
        go_wp2_with fail
        refine (is_f _ _ HW.out).mono ?_
        rintro e w3 ⟨rfl, rfl⟩
        go_wp2
        all_goals (go_ret2; exact ⟨by rw [HN.out.1, HN.out.2] <;> rfl, hb2⟩)
  · have HN := Lib.hid (hno (by simp [okB, hm]))
    rw [show magN (digs l) = 0 from by simp [magN, hm], bf hm] at HD
    clear hno hyes hm
    generalize isNeg l = b at *
    go_enter Tryd.func32, Tryd.ntmps32
    go_wp2_with fail
    refine HC.out.mono ?_
    rintro e w1 ⟨rfl, rfl⟩
    go_wp2_with fail
    refine HD.out.mono ?_
    rintro e w2 ⟨rfl, hb2⟩
    go_wp2
    all_goals (go_ret2; exact ⟨by rw [HN.out.1, HN.out.2] <;> rfl, hb2⟩)

/-! ### the specification's Parse -/
theorem okB_ten (b : Bool) (d : List UInt8) : okB b d = (tenB d && !(b && decide (val d = 0)) && isWb (sg b (val d))) := by
  rw [Bool.eq_iff_iff]
  constructor
  · intro h
    unfold okB at h
    rw [Bool.and_eq_true, Bool.and_eq_true] at h ⊢
    exact ⟨⟨tenB_of h.1.1, h.1.2⟩, h.2⟩
  · intro h
    unfold okB
    rw [Bool.and_eq_true, Bool.and_eq_true] at h ⊢
    refine ⟨⟨magB_of h.1.1 ?_, h.1.2⟩, h.2⟩
    have := (isWb_iff _).1 h.2
    unfold isW sg at this
    split at this <;> omega
theorem num_call (d : List UInt8) (hd : d.length ≤ maxLen) (w : World) : Calls Tryd.prog 56 #[.string ⟨d.toArray⟩, .int .i64 10] w fun e w' => e = .returned (.tuple #[.int .i64 (tenN d), .bool (tenB d)]) ∧ w = w' :=
  (number_any ⟨d.toArray⟩ (by simpa [ByteArray.size] using hd) w).mono fun e w' ⟨he, hw⟩ => ⟨by rw [he], hw⟩
theorem isNeg_no {b : UInt8} {t : List UInt8} (h : b ≠ 45) : isNeg (b :: t) = false ∧ digs (b :: t) = b :: t :=
  ⟨by unfold isNeg; split; (rename_i e; cases e; exact absurd rfl h); rfl, by unfold digs; split; (rename_i e; cases e; exact absurd rfl h); rfl⟩
/-- the end of Parse, behind the sign -/
theorem rparse_neg (s : ByteArray) (hs : s.size ≤ maxLen) (w : World) (h0 : 0 < s.size) (h45 : (s[0]'h0).toNat = 45) : Calls Tryd.prog 33 #[.string s] w fun e w' => e = .returned (.tuple #[.int .i64 (paN s.data.toList), .int .i64 (paE s.data.toList)]) ∧ w = w' := by
  have hcons : ∃ t, s.data.toList = 45 :: t := by
    have hg := Lib.getD_at s 0 h0
    cases hl : s.data.toList with
    | nil => have h9 := Lib.size_eq s; rw [hl, List.length_nil] at h9; omega
    | cons b t =>
      rw [hl] at hg
      refine ⟨t, ?_⟩
      have : b = 45 := by rw [← UInt8.toNat_inj]; rw [hg] at h45; simpa using h45
      rw [this]
  obtain ⟨t, hl⟩ := hcons
  have hd : digs s.data.toList = t := by rw [hl]; rfl
  have hn : isNeg s.data.toList = true := by rw [hl]; rfl
  have hx : s.extract 1 s.size = ⟨t.toArray⟩ := by
    apply ByteArray.ext; rw [← Array.toList_inj, Lib.extract_to_end, hl]; rfl
  have HD := Lib.hid (num_call t (by have h2 : s.data.toList.length = s.size := (Lib.size_eq s).symm; rw [hl] at h2; simp at h2; omega) w)
  have hb45 : (((s[0]'h0).toNat : Int) == 45) = true := by rw [beq_iff_eq]; omega
  have hi0 : (0 : Int) < (s.size : Int) := by omega
  have hno := @par_no s.data.toList
  have hyes := @par_yes s.data.toList
  rw [hd, hn, okB_ten] at hno hyes
  have hmax := hs
  unfold maxLen at hmax
  clear hd hn hl h45
  generalize s.data.toList = l at *
  by_cases hm : tenB t = true
  · rw [show tenN t = (val t : Int) from by simp [tenN, hm], hm] at HD
    by_cases hz : val t = 0
    · have HN := Lib.hid (hno (by simp [hz]))
      rw [hz] at HD
      clear hno hyes hm hz
      go_enter Tryd.func33, Tryd.ntmps33
      go_wp2_with fail
      refine HD.out.mono ?_
      rintro e w2 ⟨rfl, rfl⟩
      go_wp2
      all_goals (go_ret2; exact ⟨by rw [HN.out.1, HN.out.2] <;> rfl, rfl⟩)
    · have hzB : ((val t : Int) == 0) = false := by rw [beq_eq_false_iff_ne]; omega
      have hvb : val t < 10000000000 := by
        have h1 := hm
        simp only [tenB, numB, Bool.and_eq_true, decide_eq_true_eq] at h1
        have := val_lt t h1.1.2.1
        have h3 := Nat.pow_le_pow_right (n := 10) (by decide) h1.2
        have h4 : (10 : Nat) ^ 10 = 10000000000 := by decide
        omega
      by_cases hw : isWb (-(val t : Int)) = true
      · have HN := Lib.hid (show paN l = -(val t : Int) ∧ paE l = 0 from by have := hyes (by simp [hm, hz, sg, hw]); simpa [sg] using this)
        have HW := Lib.hid hw
        clear hno hyes hm hw
        generalize val t = v at *
        go_enter Tryd.func33, Tryd.ntmps33
        go_wp2_with fail
        refine HD.out.mono ?_
        rintro e w2 ⟨rfl, rfl⟩
        go_wp2_with fail
        refine (ris_t _ _ HW.out).mono ?_
        rintro e w3 ⟨rfl, rfl⟩
        go_wp2
        all_goals (go_ret2; exact ⟨by rw [HN.out.1, HN.out.2] <;> rfl, rfl⟩)
      · have HN := Lib.hid (hno (by simp [sg, hw]))
        have HW := Lib.hid (bf hw)
        clear hno hyes hm hw
        generalize val t = v at *
        go_enter Tryd.func33, Tryd.ntmps33
        go_wp2_with fail
        refine HD.out.mono ?_
        rintro e w2 ⟨rfl, rfl⟩
        go_wp2_with fail
        refine (ris_f _ _ HW.out).mono ?_
        rintro e w3 ⟨rfl, rfl⟩
        go_wp2
        all_goals (go_ret2; exact ⟨by rw [HN.out.1, HN.out.2] <;> rfl, rfl⟩)
  · have HN := Lib.hid (hno (by simp [hm]))
    rw [show tenN t = 0 from by simp [tenN, hm], bf hm] at HD
    clear hno hyes hm
    go_enter Tryd.func33, Tryd.ntmps33
    go_wp2_with fail
    refine HD.out.mono ?_
    rintro e w2 ⟨rfl, rfl⟩
    go_wp2
    all_goals (go_ret2; exact ⟨by rw [HN.out.1, HN.out.2] <;> rfl, rfl⟩)
theorem rparse_pos (s : ByteArray) (hs : s.size ≤ maxLen) (w : World) (hcase : s.size = 0 ∨ ∃ h0 : 0 < s.size, (s[0]'h0).toNat ≠ 45) : Calls Tryd.prog 33 #[.string s] w fun e w' => e = .returned (.tuple #[.int .i64 (paN s.data.toList), .int .i64 (paE s.data.toList)]) ∧ w = w' := by
  have hnd : isNeg s.data.toList = false ∧ digs s.data.toList = s.data.toList := by
    cases hl : s.data.toList with
    | nil => exact ⟨rfl, rfl⟩
    | cons b t =>
      apply isNeg_no
      intro e
      rcases hcase with h | ⟨h0, h⟩
      · have h9 := Lib.size_eq s; rw [hl, List.length_cons] at h9; omega
      · have hg := Lib.getD_at s 0 h0
        rw [hl] at hg
        apply h; rw [hg, e]; rfl
  have HD := Lib.hid (number_any s hs w)
  have hno := @par_no s.data.toList
  have hyes := @par_yes s.data.toList
  rw [hnd.1, hnd.2, okB_ten] at hno hyes
  have hmax := hs
  unfold maxLen at hmax
  clear hnd
  have core : ∀ (hh : (s.size = 0) ∨ (∃ h0 : 0 < s.size, (s[0]'h0).toNat ≠ 45)), ∀ (Q : Prop), ((((s.size : Int) ≤ 0) → Q)) → ((h0 : 0 < s.size) → (0 : Int) < (s.size : Int) → ((((s[0]'h0).toNat : Int) == 45) = false) → Q) → Q := fun hh Q a b => by
    rcases hh with h | ⟨h0, h⟩
    · exact a (by omega)
    · exact b h0 (by omega) (by rw [beq_eq_false_iff_ne]; omega)
  have HCORE := Lib.hid (core hcase)
  clear core hcase
  generalize s.data.toList = l at *
  by_cases hm : tenB l = true
  · rw [show tenN l = (val l : Int) from by simp [tenN, hm], hm] at HD
    by_cases hw : isWb (val l : Int) = true
    · have HN := Lib.hid (show paN l = (val l : Int) ∧ paE l = 0 from by have := hyes (by simp [hm, sg, hw]); simpa [sg] using this)
      have HW := Lib.hid hw
      clear hno hyes hm hw
      generalize val l = v at *
      apply HCORE.out <;> (intros; (
        go_enter Tryd.func33, Tryd.ntmps33
        go_wp2_with fail
        refine HD.out.mono ?_
        rintro e w2 ⟨rfl, rfl⟩
        go_wp2_with fail
        refine (ris_t _ _ HW.out).mono ?_
        rintro e w3 ⟨rfl, rfl⟩
        go_wp2
        all_goals (go_ret2; exact ⟨by rw [HN.out.1, HN.out.2] <;> rfl, rfl⟩)))
    · have HN := Lib.hid (hno (by simp [sg, hw]))
      have HW := Lib.hid (bf hw)
      clear hno hyes hm hw
      generalize val l = v at *
      apply HCORE.out <;> (intros; (
        go_enter Tryd.func33, Tryd.ntmps33
        go_wp2_with fail
        refine HD.out.mono ?_
        rintro e w2 ⟨rfl, rfl⟩
        go_wp2_with fail
        refine (ris_f _ _ HW.out).mono ?_
        rintro e w3 ⟨rfl, rfl⟩
        go_wp2
        all_goals (go_ret2; exact ⟨by rw [HN.out.1, HN.out.2] <;> rfl, rfl⟩)))
  · have HN := Lib.hid (hno (by simp [hm]))
    rw [show tenN l = 0 from by simp [tenN, hm], bf hm] at HD
    clear hno hyes hm
    apply HCORE.out <;> (intros; (
      go_enter Tryd.func33, Tryd.ntmps33
      go_wp2_with fail
      refine HD.out.mono ?_
      rintro e w2 ⟨rfl, rfl⟩
      go_wp2
      all_goals (go_ret2; exact ⟨by rw [HN.out.1, HN.out.2] <;> rfl, rfl⟩)))
theorem rparse_any (s : ByteArray) (hs : s.size ≤ maxLen) (w : World) : Calls Tryd.prog 33 #[.string s] w fun e w' => e = .returned (.tuple #[.int .i64 (paN s.data.toList), .int .i64 (paE s.data.toList)]) ∧ w = w' := by
  by_cases h0 : 0 < s.size
  · by_cases h : (s[0]'h0).toNat = 45
    · exact rparse_neg s hs w h0 h
    · exact rparse_pos s hs w (Or.inr ⟨h0, h⟩)
  · exact rparse_pos s hs w (Or.inl (by omega))
end Go.Proofs.YthbgingclpponaaDoor
