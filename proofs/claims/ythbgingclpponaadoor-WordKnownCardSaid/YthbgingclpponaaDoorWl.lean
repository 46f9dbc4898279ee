/- Walks, part l: reading numbers. -/
import Derived.Test.YthbgingclpponaaDoorWe
import Derived.Test.YthbgingclpponaaDoorMg
import Derived.Lib.OthersKept
import Derived.Lib.Strings
import Derived.Laws.RangeAny
namespace Go.Proofs.YthbgingclpponaaDoor
open Go.RowKit
set_option linter.unusedVariables false

def MagPost (s : ByteArray) (w : World) (e : Ending) (w' : World) : Prop := e = .returned (.tuple #[.int .i64 (magN s.data.toList), .bool (magB s.data.toList)]) ∧ Below w.heap.size w w'
theorem mag_no {s : ByteArray} {w w' : World} (h : magB s.data.toList = false) (hb : Below w.heap.size w w') : MagPost s w (.returned (.tuple #[.int .i64 0, .bool false])) w' := ⟨by rw [h]; simp [magN, h], hb⟩
theorem mag_yes {s : ByteArray} {w w' : World} (h : magB s.data.toList = true) (hb : Below w.heap.size w w') : MagPost s w (.returned (.tuple #[.int .i64 (val s.data.toList), .bool true])) w' := ⟨by rw [h]; simp [magN, h], hb⟩
set_option maxHeartbeats 1000000 in
theorem magnitude_any (s : ByteArray) (hs : s.size ≤ maxLen) (w : World) : Calls Tryd.prog 55 #[.string s] w (MagPost s w) := by
  unfold maxLen at hs
  have hLn : s.data.toList.length = s.size := (Lib.size_eq s).symm
  have HLn := Lib.hid hLn; clear hLn
  have hk0 : (w.iter s 0).heap[w.heap.size]? = some (.stringIter s 0) := World.iter_heap w s 0
  have hb0 : Below w.heap.size w (w.iter s 0) := (Below.refl _ w).alloc (Nat.le_refl _) _
  have HK := Lib.hid hk0; have HB := Lib.hid hb0; clear hk0 hb0
  go_enter Tryd.func55, Tryd.ntmps55
  go_wp2
  go_loopw [4] (fun n wr => ∃ pos : Nat, wr.heap[w.heap.size]? = some (.stringIter s pos) ∧ n = .int .i64 (val (s.data.toList.take pos)) ∧ Pre s.data.toList pos ∧ Below w.heap.size w wr)
    (fun _ wr => s.size - wr.iterPos w.heap.size)
  case atStart => exact ⟨0, HK.out, rfl, Pre.start _, HB.out⟩
  case round =>
    obtain ⟨pos, hk, rfl, hP, hnx⟩ := hrel
    clear HK HB
    have hmu : wr.iterPos w.heap.size = pos := by simp [World.iterPos, hk]
    have hsm := hP.small
    by_cases hp : pos < s.size
    · have hpl : pos < s.data.toList.length := by have := HLn.out; omega
      have hgd := Lib.getD_at s pos hp
      have hmax : (pos : Int) ≤ 9223372036854775807 := by omega
      have hbit : (Below w.heap.size w (wr.iterAt w.heap.size s (pos + 1))) := Lib.below_iterAt hnx (Nat.le_refl _) s (pos + 1)
      by_cases h128 : (s[pos]'hp).toNat < 128
      · have hnext : ∀ ty, (Instr.next (.pointer (some ⟨w.heap.size, 0, none⟩)) true ty).run Tryd.prog wr = _ := fun ty => Lib.run_next_ascii_at wr w.heap.size s pos ty hk hp h128
        have hk1 := Lib.iterAt_heap wr w.heap.size s pos (pos + 1) hk
        have HP := Lib.hid hP; have HK1 := Lib.hid hk1; have HB := Lib.hid hbit; have HMU := Lib.hid hmu
        have HD : Hid (s.data.toList.getD pos 0 = s[pos]'hp) := Lib.hid (by rw [hgd] <;> rfl)
        have HV := Lib.hid (val_next s.data.toList pos hpl)
        have HPL := Lib.hid hpl
        generalize wr.iterAt w.heap.size s (pos + 1) = W1 at *
        clear hk1 hbit hmu hnx hk hP hgd hpl
        generalize hc : (s[pos]'hp).toNat = c at *
        have HC := Lib.hid hc; clear hc
        by_cases hd : 48 ≤ c ∧ c ≤ 57
        · have hd1 : ¬ (c : Int) < 48 := by omega
          have hd2 : ¬ (57 : Int) < c := by omega
          by_cases hz : 0 < pos ∧ val (s.data.toList.take pos) = 0
          · have HN : Hid (magB s.data.toList = false) := Lib.hid (magB_not_num (not_num_zero HP.out HPL.out hz))
            obtain ⟨hz1, hz2⟩ := hz
            have hz3 : (0 : Int) < pos := by omega
            rw [hz2] at *
            clear hz2
            go_wp2
            go_ret2
            exact mag_no HN.out HB.out
          · have HZ := Lib.hid hz
            have hd0 : isD (s.data.toList.getD pos 0) := by rw [HD.out]; unfold isD; rw [HC.out]; exact hd
            have HD0 := Lib.hid hd0; clear hd0
            by_cases hbig : 2147483648 < val (s.data.toList.take pos) * 10 + (c - 48)
            · have HN : Hid (magB s.data.toList = false) := Lib.hid (magB_big (k := pos + 1) (by rw [HV.out, HD.out, HC.out]; exact hbig))
              have hbi : (2147483648 : Int) < (val (s.data.toList.take pos) : Int) * 10 + ((c : Int) - 48) := by omega
              clear hbig
              have hzz : ∀ b : Bool, pos = 0 ∨ (0 < pos ∧ val (s.data.toList.take pos) ≠ 0) := fun _ => by by_cases e : pos = 0; exact Or.inl e; exact Or.inr ⟨by omega, fun e2 => hz ⟨by omega, e2⟩⟩
              have hz1 := hzz true
              clear hzz hz
              generalize val (s.data.toList.take pos) = v at *
              rcases hz1 with hz1 | ⟨hz1, hz2⟩
              · have hz3 : ¬ 0 < pos := by omega
                clear hz1
                go_wp2
                all_goals (go_ret2; exact mag_no HN.out HB.out)
              · have hz3 : (0 : Int) < (pos : Int) := by omega
                have hz4 : ((v : Int) == 0) = false := by simp; omega
                clear hz2
                go_wp2
                all_goals (go_ret2; exact mag_no HN.out HB.out)
            · have hnx2 : val (s.data.toList.take (pos + 1)) ≤ 2147483648 := by rw [HV.out, HD.out, HC.out]; omega
              have HP2 := Lib.hid (HP.out.next HPL.out HD0.out HZ.out hnx2)
              clear hnx2
              have hbi : (val (s.data.toList.take pos) : Int) * 10 + ((c : Int) - 48) ≤ 2147483648 := by omega
              have HVV : Hid ((val (s.data.toList.take pos) : Int) * 10 + ((c : Int) - 48) = (val (s.data.toList.take (pos + 1)) : Int)) := Lib.hid (by rw [HV.out, HD.out, HC.out]; omega)
              clear hbig
              have hz1 : pos = 0 ∨ (0 < pos ∧ val (s.data.toList.take pos) ≠ 0) := by by_cases e : pos = 0; exact Or.inl e; exact Or.inr ⟨by omega, fun e2 => hz ⟨by omega, e2⟩⟩
              clear hz
              have HF : Hid (∀ (x : Int), x = (val (s.data.toList.take pos) : Int) * 10 + ((c : Int) - 48) → ((∃ pos', W1.heap[w.heap.size]? = some (.stringIter s pos') ∧ Value.int .i64 x = .int .i64 (val (s.data.toList.take pos')) ∧ Pre s.data.toList pos' ∧ Below w.heap.size w W1) ∧ s.size - W1.iterPos w.heap.size < s.size - wr.iterPos w.heap.size)) := Lib.hid (fun x hx => ⟨⟨pos + 1, HK1.out, by rw [hx, HVV.out], HP2.out, HB.out⟩, by
                have h1 := HMU.out
                have h2 : W1.iterPos w.heap.size = pos + 1 := by have := HK1.out; simp [World.iterPos, this]
                rw [h1, h2]; omega⟩)
              generalize val (s.data.toList.take pos) = v at *
              rcases hz1 with hz1 | ⟨hz1, hz2⟩
              · have hz3 : ¬ 0 < pos := by omega
                clear hz1
                go_wp2
                exact HF.out _ rfl
              · have hz3 : (0 : Int) < (pos : Int) := by omega
                have hz4 : ((v : Int) == 0) = false := by simp; omega
                go_wp2
                exact HF.out _ rfl
        · have HN : Hid (magB s.data.toList = false) := Lib.hid (magB_not_num (not_num_digit HPL.out (by rw [HD.out]; unfold isD; rw [HC.out]; exact hd)))
          by_cases hlo : c < 48
          · have hd1 : (c : Int) < 48 := by omega
            clear hd
            go_wp2
            all_goals (go_ret2; exact mag_no HN.out HB.out)
          · have hd2 : (57 : Int) < c := by omega
            clear hd
            go_wp2
            all_goals (go_ret2; exact mag_no HN.out HB.out)
      · have hnext : ∀ ty, (Instr.next (.pointer (some ⟨w.heap.size, 0, none⟩)) true ty).run Tryd.prog wr = _ := fun ty => Lib.run_next_any_at wr w.heap.size s pos ty hk hp
        have hr := (decode_high s pos hp (by omega)).1
        have HB := Lib.hid (Lib.below_iterAt hnx (Nat.le_refl _) s (pos + (Utf8.decode s pos).2))
        have HN : Hid (magB s.data.toList = false) := Lib.hid (magB_not_num (not_num_digit hpl (by rw [← hgd]; unfold isD; omega)))
        generalize wr.iterAt w.heap.size s (pos + (Utf8.decode s pos).2) = W1 at *
        generalize (Utf8.decode s pos).1 = r at *
        have hr2 : (57 : Int) < (r : Int) := by omega
        clear hr hbit hmu hnx hk hP hgd hpl h128
        generalize val (s.data.toList.take pos) = v at *
        go_wp2
        all_goals (go_ret2; exact mag_no HN.out HB.out)
    · have hnext : ∀ ty, (Instr.next (.pointer (some ⟨w.heap.size, 0, none⟩)) true ty).run Tryd.prog wr = _ := fun ty => Lib.run_next_end_at wr w.heap.size s pos ty hk hp
      have hple := hP.le
      obtain rfl : pos = s.size := by have := HLn.out; omega
      by_cases h0 : s.data.toList = []
      · have HN : Hid (magB s.data.toList = false) := Lib.hid (by rw [h0]; rfl)
        have he1 : s.toList.isEmpty = true := by rw [Lib.toList_data, h0]; rfl
        have he2 : (!s.toList.isEmpty) = false := by rw [he1]; rfl
        have hv : val (s.data.toList.take s.size) = 0 := by rw [h0]; simp [val]
        rw [hv] at *
        have HX := Lib.hid hnx
        clear hP hk h0 hmu hple hsm
        go_wp2
        go_ret2
        exact mag_no HN.out HX.out
      · have HN : Hid (magB s.data.toList = true) := Lib.hid (Pre.num (by rw [HLn.out]; exact hP) h0)
        have he1 : s.toList.isEmpty = false := by rw [Lib.toList_data]; cases hh : s.data.toList with
          | nil => exact absurd hh h0
          | cons a b => rfl
        have he2 : (!s.toList.isEmpty) = true := by rw [he1]; rfl
        have HT : Hid (s.data.toList.take s.size = s.data.toList) := Lib.hid (by rw [← HLn.out, List.take_length])
        rw [HT.out] at *
        have HX := Lib.hid hnx
        clear hP hk h0 hmu hple hsm
        go_wp2
        go_ret2
        exact mag_yes HN.out HX.out

/-! ### B.Number(s, 10) -/
theorem ten_no {s : ByteArray} {w : World} (h : tenB s.data.toList = false) : Ending.returned (.tuple #[.int .i64 0, .bool false]) = .returned (.tuple #[.int .i64 (tenN s.data.toList), .bool (tenB s.data.toList)]) ∧ w = w := ⟨by rw [h]; simp [tenN, h], rfl⟩
theorem ten_yes {s : ByteArray} {w : World} (h : tenB s.data.toList = true) : Ending.returned (.tuple #[.int .i64 (val s.data.toList), .bool true]) = .returned (.tuple #[.int .i64 (tenN s.data.toList), .bool (tenB s.data.toList)]) ∧ w = w := ⟨by rw [h]; simp [tenN, h], rfl⟩
theorem val_take_bound (l : List UInt8) (k : Nat) (h : ∀ j, j < k → isD (l.getD j 0)) (hk : k ≤ l.length) (h10 : k ≤ 10) : val (l.take k) < 10000000000 := by
  have h1 := val_lt (l.take k) (fun b hb => by
    obtain ⟨j, hj, rfl⟩ := List.getElem_of_mem hb
    have hj2 : j < k := by rw [List.length_take] at hj; omega
    have := h j hj2
    have hjl : j < l.length := by omega
    simpa [List.getD, hjl] using this)
  have h2 : (l.take k).length ≤ 10 := by rw [List.length_take]; omega
  have h3 := Nat.pow_le_pow_right (n := 10) (by decide) h2
  have h4 : (10 : Nat) ^ 10 = 10000000000 := by decide
  omega
set_option maxHeartbeats 1000000 in
theorem number_any (s : ByteArray) (hs : s.size ≤ maxLen) (w : World) : Calls Tryd.prog 56 #[.string s, .int .i64 10] w fun e w' => e = .returned (.tuple #[.int .i64 (tenN s.data.toList), .bool (tenB s.data.toList)]) ∧ w = w' := by
  unfold maxLen at hs
  have hLn : s.data.toList.length = s.size := (Lib.size_eq s).symm
  have HLn := Lib.hid hLn; clear hLn
  by_cases h0 : s.size = 0
  · have HN : Hid (tenB s.data.toList = false) := Lib.hid (by
      have h1 : s.data.toList = [] := List.length_eq_zero_iff.1 (by rw [HLn.out, h0])
      rw [h1]; rfl)
    go_enter Tryd.func56, Tryd.ntmps56
    go_wp2
    all_goals (go_ret2; exact ten_no HN.out)
  · by_cases h10 : 10 < s.size
    · have HN : Hid (tenB s.data.toList = false) := Lib.hid (by unfold tenB; rw [HLn.out]; simp; intro _; omega)
      go_enter Tryd.func56, Tryd.ntmps56
      go_wp2
      all_goals (go_ret2; exact ten_no HN.out)
    · have hp0 : 0 < s.size := by omega
      have hgd := Lib.getD_at s 0 hp0
      by_cases hz : 1 < s.size ∧ (s[0]'hp0).toNat = 48
      · obtain ⟨hz1, hz2⟩ := hz
        have HN : Hid (tenB s.data.toList = false) := Lib.hid (by
          rw [← Bool.not_eq_true]; intro hn
          simp only [tenB, numB, Bool.and_eq_true, decide_eq_true_eq] at hn
          have h3 := hn.1.2.2 (by rw [HLn.out]; omega)
          have h4 : s.data.toList.getD 0 0 = 48 := by rw [← hgd]; rw [← UInt8.toNat_inj]; exact hz2
          cases hl : s.data.toList with
          | nil => rw [hl] at h4; cases h4
          | cons a b => rw [hl] at h3 h4; apply h3; simpa using h4)
        have hb48 : (((s[0]'hp0).toNat : Int) == 48) = true := by rw [beq_iff_eq]; omega
        clear hgd hz2
        go_enter Tryd.func56, Tryd.ntmps56
        go_wp2
        all_goals (go_ret2; exact ten_no HN.out)
      · have hb48 : 1 < s.size → (((s[0]'hp0).toNat : Int) == 48) = false := fun h => by rw [beq_eq_false_iff_ne]; intro e; exact hz ⟨h, by omega⟩
        have HHD : Hid (2 ≤ s.data.toList.length → s.data.toList.head? ≠ some 48) := Lib.hid (fun h2 e => by
          apply hz
          refine ⟨by rw [HLn.out] at h2; omega, ?_⟩
          have h4 : s.data.toList.getD 0 0 = 48 := by
            cases hl : s.data.toList with
            | nil => rw [hl] at e; cases e
            | cons a b => rw [hl] at e; simpa using e
          rw [hgd, h4]; rfl)
        clear hgd hz
        have hz0 : ((s.size : Int) == 0) = false := by rw [beq_eq_false_iff_ne]; omega
        have hz1 : (s.size : Int) ≤ 10 := by omega
        have hz2 : ¬ (10 : Int) < (s.size : Int) := by omega
        by_cases hone : 1 < s.size
        · have hb := hb48 hone
          clear hb48
          have hone' : (1 : Int) < (s.size : Int) := by omega
          go_enter Tryd.func56, Tryd.ntmps56
          go_wp2
          go_loop [6, 7] (fun n i => ∃ k : Nat, k ≤ s.size ∧ i = .int .i64 k ∧ n = .int .i64 (val (s.data.toList.take k)) ∧ ∀ j, j < k → isD (s.data.toList.getD j 0)) (fun _ i => s.size - (intOf i).toNat)
          case atStart => exact ⟨0, Nat.zero_le _, rfl, rfl, fun j hj => by omega⟩
          case round =>
            obtain ⟨k, hk, rfl, rfl, hdig⟩ := hrel
            have HDG := Lib.hid hdig; clear hdig
            by_cases hlt : k < s.size
            · have HV := Lib.hid (val_next s.data.toList k (by rw [HLn.out]; exact hlt))
              have hbd := val_take_bound s.data.toList k HDG.out (by rw [HLn.out]; omega) (by omega)
              have HGD : Hid (s.data.toList.getD k 0 = s[k]'hlt) := Lib.hid (by rw [Lib.getD_at s k hlt])
              generalize hv : val (s.data.toList.take k) = v at *
              clear hv
              generalize hc : s[k]'hlt = b at *
              by_cases hd : isD b
              · have HN := Lib.hid hd
                unfold isD at hd
                have hd1 : ¬ (b.toNat : Int) < 48 := by omega
                have hd2 : ¬ (57 : Int) < (b.toNat : Int) := by omega
                have HX : Hid (10 * (v : Int) + ((b.toNat : Int) - 48) = (val (s.data.toList.take (k + 1)) : Int)) := Lib.hid (by rw [HV.out, HGD.out]; omega)
                clear hd
                go_wp2
                refine ⟨⟨k + 1, by omega, by go_num, by rw [HX.out], fun j hj => ?_⟩, by simp [intOf]; omega⟩
                by_cases e : j = k
                · subst e; rw [HGD.out]; exact HN.out
                · exact HDG.out j (by omega)
              · have HN : Hid (tenB s.data.toList = false) := Lib.hid (by unfold tenB; rw [not_num_digit (k := k) (by rw [HLn.out]; exact hlt) (by rw [HGD.out]; exact hd)]; rfl)
                by_cases hlo : b.toNat < 48
                · have hd1 : (b.toNat : Int) < 48 := by omega
                  clear hd
                  go_wp2
                  all_goals (go_ret2; exact ten_no HN.out)
                · have hd1 : (57 : Int) < (b.toNat : Int) := by unfold isD at hd; omega
                  clear hd
                  go_wp2
                  all_goals (go_ret2; exact ten_no HN.out)
            · obtain rfl : k = s.size := by omega
              have HN : Hid (tenB s.data.toList = true) := Lib.hid (by
                unfold tenB numB
                simp only [Bool.and_eq_true, decide_eq_true_eq]
                refine ⟨⟨fun e => h0 (by rw [← HLn.out, e]; rfl), fun b hb => ?_, HHD.out⟩, by rw [HLn.out]; omega⟩
                obtain ⟨j, hj, rfl⟩ := List.getElem_of_mem hb
                have := HDG.out j (by rw [← HLn.out]; exact hj)
                rw [List.getD, List.getElem?_eq_getElem hj] at this; exact this)
              have HT : Hid (s.data.toList.take s.size = s.data.toList) := Lib.hid (by rw [← HLn.out, List.take_length])
              rw [HT.out]
              go_wp2
              go_ret2
              exact ten_yes HN.out
        · clear hb48
          have hone' : ¬ (1 : Int) < (s.size : Int) := by omega
          go_enter Tryd.func56, Tryd.ntmps56
          go_wp2
          go_loop [6, 7] (fun n i => ∃ k : Nat, k ≤ s.size ∧ i = .int .i64 k ∧ n = .int .i64 (val (s.data.toList.take k)) ∧ ∀ j, j < k → isD (s.data.toList.getD j 0)) (fun _ i => s.size - (intOf i).toNat)
          case atStart => exact ⟨0, Nat.zero_le _, rfl, rfl, fun j hj => by omega⟩
          case round =>
            obtain ⟨k, hk, rfl, rfl, hdig⟩ := hrel
            have HDG := Lib.hid hdig; clear hdig
            by_cases hlt : k < s.size
            · have HV := Lib.hid (val_next s.data.toList k (by rw [HLn.out]; exact hlt))
              have hbd := val_take_bound s.data.toList k HDG.out (by rw [HLn.out]; omega) (by omega)
              have HGD : Hid (s.data.toList.getD k 0 = s[k]'hlt) := Lib.hid (by rw [Lib.getD_at s k hlt])
              generalize hv : val (s.data.toList.take k) = v at *
              clear hv
              generalize hc : s[k]'hlt = b at *
              by_cases hd : isD b
              · have HN := Lib.hid hd
                unfold isD at hd
                have hd1 : ¬ (b.toNat : Int) < 48 := by omega
                have hd2 : ¬ (57 : Int) < (b.toNat : Int) := by omega
                have HX : Hid (10 * (v : Int) + ((b.toNat : Int) - 48) = (val (s.data.toList.take (k + 1)) : Int)) := Lib.hid (by rw [HV.out, HGD.out]; omega)
                clear hd
                go_wp2
                refine ⟨⟨k + 1, by omega, by go_num, by rw [HX.out], fun j hj => ?_⟩, by simp [intOf]; omega⟩
                by_cases e : j = k
                · subst e; rw [HGD.out]; exact HN.out
                · exact HDG.out j (by omega)
              · have HN : Hid (tenB s.data.toList = false) := Lib.hid (by unfold tenB; rw [not_num_digit (k := k) (by rw [HLn.out]; exact hlt) (by rw [HGD.out]; exact hd)]; rfl)
                by_cases hlo : b.toNat < 48
                · have hd1 : (b.toNat : Int) < 48 := by omega
                  clear hd
                  go_wp2
                  all_goals (go_ret2; exact ten_no HN.out)
                · have hd1 : (57 : Int) < (b.toNat : Int) := by unfold isD at hd; omega
                  clear hd
                  go_wp2
                  all_goals (go_ret2; exact ten_no HN.out)
            · obtain rfl : k = s.size := by omega
              have HN : Hid (tenB s.data.toList = true) := Lib.hid (by
                unfold tenB numB
                simp only [Bool.and_eq_true, decide_eq_true_eq]
                refine ⟨⟨fun e => h0 (by rw [← HLn.out, e]; rfl), fun b hb => ?_, HHD.out⟩, by rw [HLn.out]; omega⟩
                obtain ⟨j, hj, rfl⟩ := List.getElem_of_mem hb
                have := HDG.out j (by rw [← HLn.out]; exact hj)
                rw [List.getD, List.getElem?_eq_getElem hj] at this; exact this)
              have HT : Hid (s.data.toList.take s.size = s.data.toList) := Lib.hid (by rw [← HLn.out, List.take_length])
              rw [HT.out]
              go_wp2
              go_ret2
              exact ten_yes HN.out
end Go.Proofs.YthbgingclpponaaDoor
