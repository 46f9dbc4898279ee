/- WordOrders: the theorem of the order, for any two numbers as words: keys are in the order of words and lead back; OpLess, OpSame, OpMin and OpMax go by it; texts are read again, and no text with a sign + or a 0 ahead is; the product with the inverse is 1. No condition but the row's own (the listed tables hold what the text lays). -/
import Derived.Test.YthbgingclpponaaDoorWn
import Derived.Test.YthbgingclpponaaDoorWo
import Derived.Test.YthbgingclpponaaDoorMh
import Derived.Test.YthbgingclpponaaDoorTie
import Derived.Test.YthbgingclpponaaDoorCards
namespace Go.Proofs.YthbgingclpponaaDoor.wordOrders
open Go.ChangeShapes Go.WideShapes Go.ChangeAt Go.RowKit Go.ChangeMaps
set_option linter.unusedVariables false
theorem v_val {op a b : Int} (ho : isOpb op = true) (ha : isW a) (hb : isW b) (ht : trapsb op b = false) : vN op a b = V op a b := by
  have := do_val ho ha hb ht
  simp [vN, this]
theorem ofkey_key (a : Int) (ha : isW a) : ofKeyN (a + 2147483648) = a ∧ ofKeyE (a + 2147483648) = 0 := by
  unfold isW at ha
  have h : 0 ≤ a + 2147483648 ∧ a + 2147483648 ≤ 4294967295 := by omega
  simp [ofKeyN, ofKeyE, h] <;> omega
theorem text_len (a : Int) (ha : isW a) : (textL a).length ≤ 3000000000 := by
  have := itoa_len a
  unfold isW at ha
  unfold textL; split
  · omega
  · simp
theorem str_pre (x : UInt8) (l : List UInt8) : (({ data := #[x] } : ByteArray) ++ ({ data := l.toArray } : ByteArray)) = ⟨(x :: l).toArray⟩ := by
  apply ByteArray.ext; simp [ByteArray.data_append]
theorem parse_list (l : List UInt8) (hl : l.length ≤ 4000000000) (w : World) : Calls Tryd.prog 32 #[.string ⟨l.toArray⟩] w (Ret (.tuple #[.int .i64 (paN l), .int .i64 (paE l)]) w) :=
  (parse_any ⟨l.toArray⟩ (by show l.toArray.size ≤ maxLen; unfold maxLen; simp; omega) w).mono fun e w' ⟨he, hw⟩ => ⟨by rw [he], hw⟩
set_option maxRecDepth 100000 in
set_option maxHeartbeats 4000000 in
theorem walk_lt_odd (n m a b : Int) (w : World) (hI : Inv w) (hn : wrap32 n = a) (hm : wrap32 m = b) (hs : a < b) (hp : a % 2 = 1) : Calls Tryd.prog 9 #[.int .i64 n, .int .i64 m] w (Ret (.bool true) w) := by
  have BN : Hid (∀ w, Calls Tryd.prog 36 #[.int .i64 n] w fun e w' => e = .returned (.int .i64 a) ∧ w = w') := Lib.hid (fun w => hn ▸ bword_any n w)
  have BM : Hid (∀ w, Calls Tryd.prog 36 #[.int .i64 m] w fun e w' => e = .returned (.int .i64 b) ∧ w = w') := Lib.hid (fun w => hm ▸ bword_any m w)
  have ha : isW a := hn ▸ wrap32_word n
  have hb : isW b := hm ▸ wrap32_word m
  clear hn hm
  have HI := Lib.hid hI; clear hI
  have hwa := isWb_of a ha
  have hwb := isWb_of b hb
  have E5 : V 5 a b = 1 := by rw [V5, decide_eq_true hs]; rfl
  have C5 : Hid (∀ w, Calls Tryd.prog 39 #[.int .i64 5, .int .i64 a, .int .i64 b] w (Ret (.int .i64 1) w)) := Lib.hid (fun w => by have := value39_any 5 a b w; rw [v_val (by decide) ha hb (by simp [trapsb]), E5] at this; exact this)
  have E6 : V 6 a b = 0 := by rw [V6, beq_eq_false_iff_ne.2 (by omega)]; rfl
  have C6 : Hid (∀ w, Calls Tryd.prog 39 #[.int .i64 6, .int .i64 a, .int .i64 b] w (Ret (.int .i64 0) w)) := Lib.hid (fun w => by have := value39_any 6 a b w; rw [v_val (by decide) ha hb (by simp [trapsb]), E6] at this; exact this)
  have E7 : V 7 a b = a := by rw [V7]; omega
  have C7 : Hid (∀ w, Calls Tryd.prog 39 #[.int .i64 7, .int .i64 a, .int .i64 b] w (Ret (.int .i64 a) w)) := Lib.hid (fun w => by have := value39_any 7 a b w; rw [v_val (by decide) ha hb (by simp [trapsb]), E7] at this; exact this)
  have E8 : V 8 a b = b := by rw [V8]; omega
  have C8 : Hid (∀ w, Calls Tryd.prog 39 #[.int .i64 8, .int .i64 a, .int .i64 b] w (Ret (.int .i64 b) w)) := Lib.hid (fun w => by have := value39_any 8 a b w; rw [v_val (by decide) ha hb (by simp [trapsb]), E8] at this; exact this)
  clear E5 E6 E7 E8
  have KA : Hid (∀ w, Calls Tryd.prog 26 #[.int .i64 a] w fun e w' => e = .returned (.tuple #[.int .i64 (a + 2147483648), .int .i64 0]) ∧ w = w') := Lib.hid (fun w => key_t a w hwa)
  have KB : Hid (∀ w, Calls Tryd.prog 26 #[.int .i64 b] w fun e w' => e = .returned (.tuple #[.int .i64 (b + 2147483648), .int .i64 0]) ∧ w = w') := Lib.hid (fun w => key_t b w hwb)
  have OK : Hid (∀ w, Calls Tryd.prog 28 #[.int .i64 (a + 2147483648)] w fun e w' => e = .returned (.tuple #[.int .i64 a, .int .i64 0]) ∧ w = w') := Lib.hid (fun w => by have := ofkey_any (a + 2147483648) w; rw [(ofkey_key a ha).1, (ofkey_key a ha).2] at this; exact this)
  have TA : Hid (∀ w, Inv w → Calls Tryd.prog 30 #[.int .i64 a] w (Ret (.tuple #[.string ⟨(textL a).toArray⟩, .int .i64 0]) w)) := Lib.hid (fun w h => by have := text_any a w h; rw [show wE a = 0 from by simp [wE, hwa]] at this; exact this)
  have TB : Hid (∀ w, Inv w → Calls Tryd.prog 30 #[.int .i64 b] w (Ret (.tuple #[.string ⟨(textL b).toArray⟩, .int .i64 0]) w)) := Lib.hid (fun w h => by have := text_any b w h; rw [show wE b = 0 from by simp [wE, hwb]] at this; exact this)
  have hlen := text_len a ha
  have P1 : Hid (∀ w, Calls Tryd.prog 32 #[.string ⟨(textL a).toArray⟩] w (Ret (.tuple #[.int .i64 a, .int .i64 0]) w)) := Lib.hid (fun w => by have := parse_list (textL a) (by omega) w; rw [(read_text a ha).1, (read_text a ha).2] at this; exact this)
  have P2 : Hid (∀ w, Calls Tryd.prog 32 #[.string ⟨(48 :: textL a).toArray⟩] w (Ret (.tuple #[.int .i64 (paN (48 :: textL a)), .int .i64 8]) w)) := Lib.hid (fun w => by have := parse_list (48 :: textL a) (by simp; omega) w; rw [read_zero a ha] at this; exact this)
  have P3 : Hid (∀ w, Calls Tryd.prog 32 #[.string ⟨(43 :: textL a).toArray⟩] w (Ret (.tuple #[.int .i64 (paN (43 :: textL a)), .int .i64 8]) w)) := Lib.hid (fun w => by have := parse_list (43 :: textL a) (by simp; omega) w; rw [read_plus a] at this; exact this)
  have hst : (textL a == textL b) = false := by rw [beq_eq_false_iff_ne]; intro e; have := (text_inj a b ha hb).1 e; omega
  have hab : (a == b) = false := by rw [beq_eq_false_iff_ne]; omega
  have IN : Hid (∀ w, Calls Tryd.prog 24 #[.int .i64 a] w fun e w' => e = .returned (.tuple #[.int .i64 (nwI a 4), .int .i64 0]) ∧ w = w') := Lib.hid (fun w => inverse_v a w hwa ((odd_tmod a).1 hp))
  have hx := nwI_word a ha 4
  have C2 : Hid (∀ w, Calls Tryd.prog 39 #[.int .i64 2, .int .i64 a, .int .i64 (nwI a 4)] w (Ret (.int .i64 1) w)) := Lib.hid (fun w => by have := value39_any 2 a (nwI a 4) w; rw [v_val (by decide) ha hx (by simp [trapsb]), inv_one a ha hp] at this; exact this)
  have hpar : (a.tmod 2 == 0) = false := by rw [beq_eq_false_iff_ne]; exact (odd_tmod a).1 hp
  clear hx hp
  generalize nwI a 4 = ix at *
  clear hwa hwb
  unfold isW at ha hb
  obtain ⟨ka, hka⟩ : ∃ x, x = a + 2147483648 := ⟨_, rfl⟩
  obtain ⟨kb, hkb⟩ : ∃ x, x = b + 2147483648 := ⟨_, rfl⟩
  rw [← hka] at KA OK
  rw [← hkb] at KB
  have hkk : (kb - ka != b - a) = false := by rw [bne_eq_false_iff_eq]; omega
  have hkl : ka < kb := by omega
  have hke : (ka == kb) = false := by rw [beq_eq_false_iff_ne]; omega
  have hb2 : 0 ≤ kb ∧ kb ≤ 4294967295 := by omega
  have hb1 : 0 ≤ ka ∧ ka ≤ 4294967295 := by omega
  clear hkb hs
  clear hka
  go_enter Tryd.func9, Tryd.ntmps9
  go_wp2_with fail
  refine (BN.out _).mono ?_
  rintro e w1 ⟨rfl, rfl⟩
  go_wp2_with fail
  refine (BM.out _).mono ?_
  rintro e w1 ⟨rfl, rfl⟩
  go_wp2_with fail
  refine (KA.out _).mono ?_
  rintro e w1 ⟨rfl, rfl⟩
  go_wp2_with fail
  refine (KB.out _).mono ?_
  rintro e w1 ⟨rfl, rfl⟩
  go_wp2_with fail
  refine (OK.out _).mono ?_
  rintro e w1 ⟨rfl, rfl⟩
  go_wp2_with fail
  refine (lies_t _ _ _ _ hb1).mono ?_
  rintro e w1 ⟨rfl, rfl⟩
  go_wp2_with fail
  refine (C5.out _).mono ?_
  rintro e w1 ⟨rfl, h1⟩
  have HB1 := Lib.hid h1; clear h1
  go_wp2_with fail
  refine (C6.out _).mono ?_
  rintro e w2 ⟨rfl, h1⟩
  have HB2 := Lib.hid (below_step HB1.out h1); clear h1 HB1
  go_wp2_with fail
  refine (C7.out _).mono ?_
  rintro e w3 ⟨rfl, h1⟩
  have HB3 := Lib.hid (below_step HB2.out h1); clear h1 HB2
  go_wp2_with fail
  refine (C8.out _).mono ?_
  rintro e w4 ⟨rfl, h1⟩
  have HB4 := Lib.hid (below_step HB3.out h1); clear h1 HB3
  go_wp2_with fail
  refine (TA.out _ (HI.out.below HB4.out)).mono ?_
  rintro e w5 ⟨rfl, h1⟩
  have HB5 := Lib.hid (below_step HB4.out h1); clear h1 HB4
  go_wp2_with fail
  refine (TB.out _ (HI.out.below HB5.out)).mono ?_
  rintro e w6 ⟨rfl, h1⟩
  have HB6 := Lib.hid (below_step HB5.out h1); clear h1 HB5
  generalize textL a = la at *
  generalize textL b = lb at *
  have hp1 := str_pre 48 la
  have hp2 := str_pre 43 la
  go_wp2_with fail
  refine (P1.out _).mono ?_
  rintro e w7 ⟨rfl, h1⟩
  have HB7 := Lib.hid (below_step HB6.out h1); clear h1 HB6
  go_wp2_with fail
  refine (P2.out _).mono ?_
  rintro e w8 ⟨rfl, h1⟩
  have HB8 := Lib.hid (below_step HB7.out h1); clear h1 HB7
  generalize paN (48 :: la) = z1 at *
  go_wp2_with fail
  refine (P3.out _).mono ?_
  rintro e w9 ⟨rfl, h1⟩
  have HB9 := Lib.hid (below_step HB8.out h1); clear h1 HB8
  generalize paN (43 :: la) = z2 at *
  go_wp2_with fail
  refine (IN.out _).mono ?_
  rintro e wa ⟨rfl, rfl⟩
  go_wp2_with fail
  refine (C2.out _).mono ?_
  rintro e wa ⟨rfl, h1⟩
  have HBa := Lib.hid (below_step HB9.out h1); clear h1 HB9
  go_wp2_with fail
  refine (works_any _ (HI.out.below HBa.out)).mono ?_
  rintro e wb ⟨rfl, h1⟩
  go_wp2_with fail
  go_ret
  exact ⟨rfl, below_step HBa.out h1⟩
set_option maxRecDepth 100000 in
set_option maxHeartbeats 4000000 in
theorem walk_lt_even (n m a b : Int) (w : World) (hI : Inv w) (hn : wrap32 n = a) (hm : wrap32 m = b) (hs : a < b) (hp : a % 2 ≠ 1) : Calls Tryd.prog 9 #[.int .i64 n, .int .i64 m] w (Ret (.bool true) w) := by
  have BN : Hid (∀ w, Calls Tryd.prog 36 #[.int .i64 n] w fun e w' => e = .returned (.int .i64 a) ∧ w = w') := Lib.hid (fun w => hn ▸ bword_any n w)
  have BM : Hid (∀ w, Calls Tryd.prog 36 #[.int .i64 m] w fun e w' => e = .returned (.int .i64 b) ∧ w = w') := Lib.hid (fun w => hm ▸ bword_any m w)
  have ha : isW a := hn ▸ wrap32_word n
  have hb : isW b := hm ▸ wrap32_word m
  clear hn hm
  have HI := Lib.hid hI; clear hI
  have hwa := isWb_of a ha
  have hwb := isWb_of b hb
  have E5 : V 5 a b = 1 := by rw [V5, decide_eq_true hs]; rfl
  have C5 : Hid (∀ w, Calls Tryd.prog 39 #[.int .i64 5, .int .i64 a, .int .i64 b] w (Ret (.int .i64 1) w)) := Lib.hid (fun w => by have := value39_any 5 a b w; rw [v_val (by decide) ha hb (by simp [trapsb]), E5] at this; exact this)
  have E6 : V 6 a b = 0 := by rw [V6, beq_eq_false_iff_ne.2 (by omega)]; rfl
  have C6 : Hid (∀ w, Calls Tryd.prog 39 #[.int .i64 6, .int .i64 a, .int .i64 b] w (Ret (.int .i64 0) w)) := Lib.hid (fun w => by have := value39_any 6 a b w; rw [v_val (by decide) ha hb (by simp [trapsb]), E6] at this; exact this)
  have E7 : V 7 a b = a := by rw [V7]; omega
  have C7 : Hid (∀ w, Calls Tryd.prog 39 #[.int .i64 7, .int .i64 a, .int .i64 b] w (Ret (.int .i64 a) w)) := Lib.hid (fun w => by have := value39_any 7 a b w; rw [v_val (by decide) ha hb (by simp [trapsb]), E7] at this; exact this)
  have E8 : V 8 a b = b := by rw [V8]; omega
  have C8 : Hid (∀ w, Calls Tryd.prog 39 #[.int .i64 8, .int .i64 a, .int .i64 b] w (Ret (.int .i64 b) w)) := Lib.hid (fun w => by have := value39_any 8 a b w; rw [v_val (by decide) ha hb (by simp [trapsb]), E8] at this; exact this)
  clear E5 E6 E7 E8
  have KA : Hid (∀ w, Calls Tryd.prog 26 #[.int .i64 a] w fun e w' => e = .returned (.tuple #[.int .i64 (a + 2147483648), .int .i64 0]) ∧ w = w') := Lib.hid (fun w => key_t a w hwa)
  have KB : Hid (∀ w, Calls Tryd.prog 26 #[.int .i64 b] w fun e w' => e = .returned (.tuple #[.int .i64 (b + 2147483648), .int .i64 0]) ∧ w = w') := Lib.hid (fun w => key_t b w hwb)
  have OK : Hid (∀ w, Calls Tryd.prog 28 #[.int .i64 (a + 2147483648)] w fun e w' => e = .returned (.tuple #[.int .i64 a, .int .i64 0]) ∧ w = w') := Lib.hid (fun w => by have := ofkey_any (a + 2147483648) w; rw [(ofkey_key a ha).1, (ofkey_key a ha).2] at this; exact this)
  have TA : Hid (∀ w, Inv w → Calls Tryd.prog 30 #[.int .i64 a] w (Ret (.tuple #[.string ⟨(textL a).toArray⟩, .int .i64 0]) w)) := Lib.hid (fun w h => by have := text_any a w h; rw [show wE a = 0 from by simp [wE, hwa]] at this; exact this)
  have TB : Hid (∀ w, Inv w → Calls Tryd.prog 30 #[.int .i64 b] w (Ret (.tuple #[.string ⟨(textL b).toArray⟩, .int .i64 0]) w)) := Lib.hid (fun w h => by have := text_any b w h; rw [show wE b = 0 from by simp [wE, hwb]] at this; exact this)
  have hlen := text_len a ha
  have P1 : Hid (∀ w, Calls Tryd.prog 32 #[.string ⟨(textL a).toArray⟩] w (Ret (.tuple #[.int .i64 a, .int .i64 0]) w)) := Lib.hid (fun w => by have := parse_list (textL a) (by omega) w; rw [(read_text a ha).1, (read_text a ha).2] at this; exact this)
  have P2 : Hid (∀ w, Calls Tryd.prog 32 #[.string ⟨(48 :: textL a).toArray⟩] w (Ret (.tuple #[.int .i64 (paN (48 :: textL a)), .int .i64 8]) w)) := Lib.hid (fun w => by have := parse_list (48 :: textL a) (by simp; omega) w; rw [read_zero a ha] at this; exact this)
  have P3 : Hid (∀ w, Calls Tryd.prog 32 #[.string ⟨(43 :: textL a).toArray⟩] w (Ret (.tuple #[.int .i64 (paN (43 :: textL a)), .int .i64 8]) w)) := Lib.hid (fun w => by have := parse_list (43 :: textL a) (by simp; omega) w; rw [read_plus a] at this; exact this)
  have hst : (textL a == textL b) = false := by rw [beq_eq_false_iff_ne]; intro e; have := (text_inj a b ha hb).1 e; omega
  have hab : (a == b) = false := by rw [beq_eq_false_iff_ne]; omega
  have he0 : a.tmod 2 = 0 := Classical.byContradiction fun h => hp ((odd_tmod a).2 h)
  have IN : Hid (∀ w, Calls Tryd.prog 24 #[.int .i64 a] w fun e w' => e = .returned (.tuple #[.int .i64 0, .int .i64 4]) ∧ w = w') := Lib.hid (fun w => inverse_e a w hwa he0)
  have hpar : (a.tmod 2 == 0) = true := by rw [beq_iff_eq]; exact he0
  clear hp he0
  clear hwa hwb
  unfold isW at ha hb
  obtain ⟨ka, hka⟩ : ∃ x, x = a + 2147483648 := ⟨_, rfl⟩
  obtain ⟨kb, hkb⟩ : ∃ x, x = b + 2147483648 := ⟨_, rfl⟩
  rw [← hka] at KA OK
  rw [← hkb] at KB
  have hkk : (kb - ka != b - a) = false := by rw [bne_eq_false_iff_eq]; omega
  have hkl : ka < kb := by omega
  have hke : (ka == kb) = false := by rw [beq_eq_false_iff_ne]; omega
  have hb2 : 0 ≤ kb ∧ kb ≤ 4294967295 := by omega
  have hb1 : 0 ≤ ka ∧ ka ≤ 4294967295 := by omega
  clear hkb hs
  clear hka
  go_enter Tryd.func9, Tryd.ntmps9
  go_wp2_with fail
  refine (BN.out _).mono ?_
  rintro e w1 ⟨rfl, rfl⟩
  go_wp2_with fail
  refine (BM.out _).mono ?_
  rintro e w1 ⟨rfl, rfl⟩
  go_wp2_with fail
  refine (KA.out _).mono ?_
  rintro e w1 ⟨rfl, rfl⟩
  go_wp2_with fail
  refine (KB.out _).mono ?_
  rintro e w1 ⟨rfl, rfl⟩
  go_wp2_with fail
  refine (OK.out _).mono ?_
  rintro e w1 ⟨rfl, rfl⟩
  go_wp2_with fail
  refine (lies_t _ _ _ _ hb1).mono ?_
  rintro e w1 ⟨rfl, rfl⟩
  go_wp2_with fail
  refine (C5.out _).mono ?_
  rintro e w1 ⟨rfl, h1⟩
  have HB1 := Lib.hid h1; clear h1
  go_wp2_with fail
  refine (C6.out _).mono ?_
  rintro e w2 ⟨rfl, h1⟩
  have HB2 := Lib.hid (below_step HB1.out h1); clear h1 HB1
  go_wp2_with fail
  refine (C7.out _).mono ?_
  rintro e w3 ⟨rfl, h1⟩
  have HB3 := Lib.hid (below_step HB2.out h1); clear h1 HB2
  go_wp2_with fail
  refine (C8.out _).mono ?_
  rintro e w4 ⟨rfl, h1⟩
  have HB4 := Lib.hid (below_step HB3.out h1); clear h1 HB3
  go_wp2_with fail
  refine (TA.out _ (HI.out.below HB4.out)).mono ?_
  rintro e w5 ⟨rfl, h1⟩
  have HB5 := Lib.hid (below_step HB4.out h1); clear h1 HB4
  go_wp2_with fail
  refine (TB.out _ (HI.out.below HB5.out)).mono ?_
  rintro e w6 ⟨rfl, h1⟩
  have HB6 := Lib.hid (below_step HB5.out h1); clear h1 HB5
  generalize textL a = la at *
  generalize textL b = lb at *
  have hp1 := str_pre 48 la
  have hp2 := str_pre 43 la
  go_wp2_with fail
  refine (P1.out _).mono ?_
  rintro e w7 ⟨rfl, h1⟩
  have HB7 := Lib.hid (below_step HB6.out h1); clear h1 HB6
  go_wp2_with fail
  refine (P2.out _).mono ?_
  rintro e w8 ⟨rfl, h1⟩
  have HB8 := Lib.hid (below_step HB7.out h1); clear h1 HB7
  generalize paN (48 :: la) = z1 at *
  go_wp2_with fail
  refine (P3.out _).mono ?_
  rintro e w9 ⟨rfl, h1⟩
  have HB9 := Lib.hid (below_step HB8.out h1); clear h1 HB8
  generalize paN (43 :: la) = z2 at *
  go_wp2_with fail
  refine (IN.out _).mono ?_
  rintro e wa ⟨rfl, rfl⟩
  have HBa := Lib.hid HB9.out; clear HB9
  go_wp2_with fail
  refine (works_any _ (HI.out.below HBa.out)).mono ?_
  rintro e wb ⟨rfl, h1⟩
  go_wp2_with fail
  go_ret
  exact ⟨rfl, below_step HBa.out h1⟩
set_option maxRecDepth 100000 in
set_option maxHeartbeats 4000000 in
theorem walk_eq_odd (n m a : Int) (w : World) (hI : Inv w) (hn : wrap32 n = a) (hm : wrap32 m = a) (hp : a % 2 = 1) : Calls Tryd.prog 9 #[.int .i64 n, .int .i64 m] w (Ret (.bool true) w) := by
  have BN : Hid (∀ w, Calls Tryd.prog 36 #[.int .i64 n] w fun e w' => e = .returned (.int .i64 a) ∧ w = w') := Lib.hid (fun w => hn ▸ bword_any n w)
  have BM : Hid (∀ w, Calls Tryd.prog 36 #[.int .i64 m] w fun e w' => e = .returned (.int .i64 a) ∧ w = w') := Lib.hid (fun w => hm ▸ bword_any m w)
  have ha : isW a := hn ▸ wrap32_word n
  have hb : isW a := hm ▸ wrap32_word m
  clear hn hm
  have HI := Lib.hid hI; clear hI
  have hwa := isWb_of a ha
  have hwb := isWb_of a hb
  have E5 : V 5 a a = 0 := by rw [V5, decide_eq_false (by omega)]; rfl
  have C5 : Hid (∀ w, Calls Tryd.prog 39 #[.int .i64 5, .int .i64 a, .int .i64 a] w (Ret (.int .i64 0) w)) := Lib.hid (fun w => by have := value39_any 5 a a w; rw [v_val (by decide) ha hb (by simp [trapsb]), E5] at this; exact this)
  have E6 : V 6 a a = 1 := by rw [V6, beq_iff_eq.2 rfl]; rfl
  have C6 : Hid (∀ w, Calls Tryd.prog 39 #[.int .i64 6, .int .i64 a, .int .i64 a] w (Ret (.int .i64 1) w)) := Lib.hid (fun w => by have := value39_any 6 a a w; rw [v_val (by decide) ha hb (by simp [trapsb]), E6] at this; exact this)
  have E7 : V 7 a a = a := by rw [V7]; omega
  have C7 : Hid (∀ w, Calls Tryd.prog 39 #[.int .i64 7, .int .i64 a, .int .i64 a] w (Ret (.int .i64 a) w)) := Lib.hid (fun w => by have := value39_any 7 a a w; rw [v_val (by decide) ha hb (by simp [trapsb]), E7] at this; exact this)
  have E8 : V 8 a a = a := by rw [V8]; omega
  have C8 : Hid (∀ w, Calls Tryd.prog 39 #[.int .i64 8, .int .i64 a, .int .i64 a] w (Ret (.int .i64 a) w)) := Lib.hid (fun w => by have := value39_any 8 a a w; rw [v_val (by decide) ha hb (by simp [trapsb]), E8] at this; exact this)
  clear E5 E6 E7 E8
  have KA : Hid (∀ w, Calls Tryd.prog 26 #[.int .i64 a] w fun e w' => e = .returned (.tuple #[.int .i64 (a + 2147483648), .int .i64 0]) ∧ w = w') := Lib.hid (fun w => key_t a w hwa)
  have KB : Hid (∀ w, Calls Tryd.prog 26 #[.int .i64 a] w fun e w' => e = .returned (.tuple #[.int .i64 (a + 2147483648), .int .i64 0]) ∧ w = w') := Lib.hid (fun w => key_t a w hwb)
  have OK : Hid (∀ w, Calls Tryd.prog 28 #[.int .i64 (a + 2147483648)] w fun e w' => e = .returned (.tuple #[.int .i64 a, .int .i64 0]) ∧ w = w') := Lib.hid (fun w => by have := ofkey_any (a + 2147483648) w; rw [(ofkey_key a ha).1, (ofkey_key a ha).2] at this; exact this)
  have TA : Hid (∀ w, Inv w → Calls Tryd.prog 30 #[.int .i64 a] w (Ret (.tuple #[.string ⟨(textL a).toArray⟩, .int .i64 0]) w)) := Lib.hid (fun w h => by have := text_any a w h; rw [show wE a = 0 from by simp [wE, hwa]] at this; exact this)
  have TB : Hid (∀ w, Inv w → Calls Tryd.prog 30 #[.int .i64 a] w (Ret (.tuple #[.string ⟨(textL a).toArray⟩, .int .i64 0]) w)) := Lib.hid (fun w h => by have := text_any a w h; rw [show wE a = 0 from by simp [wE, hwb]] at this; exact this)
  have hlen := text_len a ha
  have P1 : Hid (∀ w, Calls Tryd.prog 32 #[.string ⟨(textL a).toArray⟩] w (Ret (.tuple #[.int .i64 a, .int .i64 0]) w)) := Lib.hid (fun w => by have := parse_list (textL a) (by omega) w; rw [(read_text a ha).1, (read_text a ha).2] at this; exact this)
  have P2 : Hid (∀ w, Calls Tryd.prog 32 #[.string ⟨(48 :: textL a).toArray⟩] w (Ret (.tuple #[.int .i64 (paN (48 :: textL a)), .int .i64 8]) w)) := Lib.hid (fun w => by have := parse_list (48 :: textL a) (by simp; omega) w; rw [read_zero a ha] at this; exact this)
  have P3 : Hid (∀ w, Calls Tryd.prog 32 #[.string ⟨(43 :: textL a).toArray⟩] w (Ret (.tuple #[.int .i64 (paN (43 :: textL a)), .int .i64 8]) w)) := Lib.hid (fun w => by have := parse_list (43 :: textL a) (by simp; omega) w; rw [read_plus a] at this; exact this)
  have IN : Hid (∀ w, Calls Tryd.prog 24 #[.int .i64 a] w fun e w' => e = .returned (.tuple #[.int .i64 (nwI a 4), .int .i64 0]) ∧ w = w') := Lib.hid (fun w => inverse_v a w hwa ((odd_tmod a).1 hp))
  have hx := nwI_word a ha 4
  have C2 : Hid (∀ w, Calls Tryd.prog 39 #[.int .i64 2, .int .i64 a, .int .i64 (nwI a 4)] w (Ret (.int .i64 1) w)) := Lib.hid (fun w => by have := value39_any 2 a (nwI a 4) w; rw [v_val (by decide) ha hx (by simp [trapsb]), inv_one a ha hp] at this; exact this)
  have hpar : (a.tmod 2 == 0) = false := by rw [beq_eq_false_iff_ne]; exact (odd_tmod a).1 hp
  clear hx hp
  generalize nwI a 4 = ix at *
  clear hwa hwb
  unfold isW at ha hb
  obtain ⟨ka, hka⟩ : ∃ x, x = a + 2147483648 := ⟨_, rfl⟩
  rw [← hka] at KA OK
  rw [← hka] at KB
  have hb1 : 0 ≤ ka ∧ ka ≤ 4294967295 := by omega
  clear hka
  go_enter Tryd.func9, Tryd.ntmps9
  go_wp2_with fail
  refine (BN.out _).mono ?_
  rintro e w1 ⟨rfl, rfl⟩
  go_wp2_with fail
  refine (BM.out _).mono ?_
  rintro e w1 ⟨rfl, rfl⟩
  go_wp2_with fail
  refine (KA.out _).mono ?_
  rintro e w1 ⟨rfl, rfl⟩
  go_wp2_with fail
  refine (KB.out _).mono ?_
  rintro e w1 ⟨rfl, rfl⟩
  go_wp2_with fail
  refine (OK.out _).mono ?_
  rintro e w1 ⟨rfl, rfl⟩
  go_wp2_with fail
  refine (lies_t _ _ _ _ hb1).mono ?_
  rintro e w1 ⟨rfl, rfl⟩
  go_wp2_with fail
  refine (C5.out _).mono ?_
  rintro e w1 ⟨rfl, h1⟩
  have HB1 := Lib.hid h1; clear h1
  go_wp2_with fail
  refine (C6.out _).mono ?_
  rintro e w2 ⟨rfl, h1⟩
  have HB2 := Lib.hid (below_step HB1.out h1); clear h1 HB1
  go_wp2_with fail
  refine (C7.out _).mono ?_
  rintro e w3 ⟨rfl, h1⟩
  have HB3 := Lib.hid (below_step HB2.out h1); clear h1 HB2
  go_wp2_with fail
  refine (C8.out _).mono ?_
  rintro e w4 ⟨rfl, h1⟩
  have HB4 := Lib.hid (below_step HB3.out h1); clear h1 HB3
  go_wp2_with fail
  refine (TA.out _ (HI.out.below HB4.out)).mono ?_
  rintro e w5 ⟨rfl, h1⟩
  have HB5 := Lib.hid (below_step HB4.out h1); clear h1 HB4
  go_wp2_with fail
  refine (TB.out _ (HI.out.below HB5.out)).mono ?_
  rintro e w6 ⟨rfl, h1⟩
  have HB6 := Lib.hid (below_step HB5.out h1); clear h1 HB5
  generalize textL a = la at *
  have hp1 := str_pre 48 la
  have hp2 := str_pre 43 la
  go_wp2_with fail
  refine (P1.out _).mono ?_
  rintro e w7 ⟨rfl, h1⟩
  have HB7 := Lib.hid (below_step HB6.out h1); clear h1 HB6
  go_wp2_with fail
  refine (P2.out _).mono ?_
  rintro e w8 ⟨rfl, h1⟩
  have HB8 := Lib.hid (below_step HB7.out h1); clear h1 HB7
  generalize paN (48 :: la) = z1 at *
  go_wp2_with fail
  refine (P3.out _).mono ?_
  rintro e w9 ⟨rfl, h1⟩
  have HB9 := Lib.hid (below_step HB8.out h1); clear h1 HB8
  generalize paN (43 :: la) = z2 at *
  go_wp2_with fail
  refine (IN.out _).mono ?_
  rintro e wa ⟨rfl, rfl⟩
  go_wp2_with fail
  refine (C2.out _).mono ?_
  rintro e wa ⟨rfl, h1⟩
  have HBa := Lib.hid (below_step HB9.out h1); clear h1 HB9
  go_wp2_with fail
  refine (works_any _ (HI.out.below HBa.out)).mono ?_
  rintro e wb ⟨rfl, h1⟩
  go_wp2_with fail
  go_ret
  exact ⟨rfl, below_step HBa.out h1⟩
set_option maxRecDepth 100000 in
set_option maxHeartbeats 4000000 in
theorem walk_eq_even (n m a : Int) (w : World) (hI : Inv w) (hn : wrap32 n = a) (hm : wrap32 m = a) (hp : a % 2 ≠ 1) : Calls Tryd.prog 9 #[.int .i64 n, .int .i64 m] w (Ret (.bool true) w) := by
  have BN : Hid (∀ w, Calls Tryd.prog 36 #[.int .i64 n] w fun e w' => e = .returned (.int .i64 a) ∧ w = w') := Lib.hid (fun w => hn ▸ bword_any n w)
  have BM : Hid (∀ w, Calls Tryd.prog 36 #[.int .i64 m] w fun e w' => e = .returned (.int .i64 a) ∧ w = w') := Lib.hid (fun w => hm ▸ bword_any m w)
  have ha : isW a := hn ▸ wrap32_word n
  have hb : isW a := hm ▸ wrap32_word m
  clear hn hm
  have HI := Lib.hid hI; clear hI
  have hwa := isWb_of a ha
  have hwb := isWb_of a hb
  have E5 : V 5 a a = 0 := by rw [V5, decide_eq_false (by omega)]; rfl
  have C5 : Hid (∀ w, Calls Tryd.prog 39 #[.int .i64 5, .int .i64 a, .int .i64 a] w (Ret (.int .i64 0) w)) := Lib.hid (fun w => by have := value39_any 5 a a w; rw [v_val (by decide) ha hb (by simp [trapsb]), E5] at this; exact this)
  have E6 : V 6 a a = 1 := by rw [V6, beq_iff_eq.2 rfl]; rfl
  have C6 : Hid (∀ w, Calls Tryd.prog 39 #[.int .i64 6, .int .i64 a, .int .i64 a] w (Ret (.int .i64 1) w)) := Lib.hid (fun w => by have := value39_any 6 a a w; rw [v_val (by decide) ha hb (by simp [trapsb]), E6] at this; exact this)
  have E7 : V 7 a a = a := by rw [V7]; omega
  have C7 : Hid (∀ w, Calls Tryd.prog 39 #[.int .i64 7, .int .i64 a, .int .i64 a] w (Ret (.int .i64 a) w)) := Lib.hid (fun w => by have := value39_any 7 a a w; rw [v_val (by decide) ha hb (by simp [trapsb]), E7] at this; exact this)
  have E8 : V 8 a a = a := by rw [V8]; omega
  have C8 : Hid (∀ w, Calls Tryd.prog 39 #[.int .i64 8, .int .i64 a, .int .i64 a] w (Ret (.int .i64 a) w)) := Lib.hid (fun w => by have := value39_any 8 a a w; rw [v_val (by decide) ha hb (by simp [trapsb]), E8] at this; exact this)
  clear E5 E6 E7 E8
  have KA : Hid (∀ w, Calls Tryd.prog 26 #[.int .i64 a] w fun e w' => e = .returned (.tuple #[.int .i64 (a + 2147483648), .int .i64 0]) ∧ w = w') := Lib.hid (fun w => key_t a w hwa)
  have KB : Hid (∀ w, Calls Tryd.prog 26 #[.int .i64 a] w fun e w' => e = .returned (.tuple #[.int .i64 (a + 2147483648), .int .i64 0]) ∧ w = w') := Lib.hid (fun w => key_t a w hwb)
  have OK : Hid (∀ w, Calls Tryd.prog 28 #[.int .i64 (a + 2147483648)] w fun e w' => e = .returned (.tuple #[.int .i64 a, .int .i64 0]) ∧ w = w') := Lib.hid (fun w => by have := ofkey_any (a + 2147483648) w; rw [(ofkey_key a ha).1, (ofkey_key a ha).2] at this; exact this)
  have TA : Hid (∀ w, Inv w → Calls Tryd.prog 30 #[.int .i64 a] w (Ret (.tuple #[.string ⟨(textL a).toArray⟩, .int .i64 0]) w)) := Lib.hid (fun w h => by have := text_any a w h; rw [show wE a = 0 from by simp [wE, hwa]] at this; exact this)
  have TB : Hid (∀ w, Inv w → Calls Tryd.prog 30 #[.int .i64 a] w (Ret (.tuple #[.string ⟨(textL a).toArray⟩, .int .i64 0]) w)) := Lib.hid (fun w h => by have := text_any a w h; rw [show wE a = 0 from by simp [wE, hwb]] at this; exact this)
  have hlen := text_len a ha
  have P1 : Hid (∀ w, Calls Tryd.prog 32 #[.string ⟨(textL a).toArray⟩] w (Ret (.tuple #[.int .i64 a, .int .i64 0]) w)) := Lib.hid (fun w => by have := parse_list (textL a) (by omega) w; rw [(read_text a ha).1, (read_text a ha).2] at this; exact this)
  have P2 : Hid (∀ w, Calls Tryd.prog 32 #[.string ⟨(48 :: textL a).toArray⟩] w (Ret (.tuple #[.int .i64 (paN (48 :: textL a)), .int .i64 8]) w)) := Lib.hid (fun w => by have := parse_list (48 :: textL a) (by simp; omega) w; rw [read_zero a ha] at this; exact this)
  have P3 : Hid (∀ w, Calls Tryd.prog 32 #[.string ⟨(43 :: textL a).toArray⟩] w (Ret (.tuple #[.int .i64 (paN (43 :: textL a)), .int .i64 8]) w)) := Lib.hid (fun w => by have := parse_list (43 :: textL a) (by simp; omega) w; rw [read_plus a] at this; exact this)
  have he0 : a.tmod 2 = 0 := Classical.byContradiction fun h => hp ((odd_tmod a).2 h)
  have IN : Hid (∀ w, Calls Tryd.prog 24 #[.int .i64 a] w fun e w' => e = .returned (.tuple #[.int .i64 0, .int .i64 4]) ∧ w = w') := Lib.hid (fun w => inverse_e a w hwa he0)
  have hpar : (a.tmod 2 == 0) = true := by rw [beq_iff_eq]; exact he0
  clear hp he0
  clear hwa hwb
  unfold isW at ha hb
  obtain ⟨ka, hka⟩ : ∃ x, x = a + 2147483648 := ⟨_, rfl⟩
  rw [← hka] at KA OK
  rw [← hka] at KB
  have hb1 : 0 ≤ ka ∧ ka ≤ 4294967295 := by omega
  clear hka
  go_enter Tryd.func9, Tryd.ntmps9
  go_wp2_with fail
  refine (BN.out _).mono ?_
  rintro e w1 ⟨rfl, rfl⟩
  go_wp2_with fail
  refine (BM.out _).mono ?_
  rintro e w1 ⟨rfl, rfl⟩
  go_wp2_with fail
  refine (KA.out _).mono ?_
  rintro e w1 ⟨rfl, rfl⟩
  go_wp2_with fail
  refine (KB.out _).mono ?_
  rintro e w1 ⟨rfl, rfl⟩
  go_wp2_with fail
  refine (OK.out _).mono ?_
  rintro e w1 ⟨rfl, rfl⟩
  go_wp2_with fail
  refine (lies_t _ _ _ _ hb1).mono ?_
  rintro e w1 ⟨rfl, rfl⟩
  go_wp2_with fail
  refine (C5.out _).mono ?_
  rintro e w1 ⟨rfl, h1⟩
  have HB1 := Lib.hid h1; clear h1
  go_wp2_with fail
  refine (C6.out _).mono ?_
  rintro e w2 ⟨rfl, h1⟩
  have HB2 := Lib.hid (below_step HB1.out h1); clear h1 HB1
  go_wp2_with fail
  refine (C7.out _).mono ?_
  rintro e w3 ⟨rfl, h1⟩
  have HB3 := Lib.hid (below_step HB2.out h1); clear h1 HB2
  go_wp2_with fail
  refine (C8.out _).mono ?_
  rintro e w4 ⟨rfl, h1⟩
  have HB4 := Lib.hid (below_step HB3.out h1); clear h1 HB3
  go_wp2_with fail
  refine (TA.out _ (HI.out.below HB4.out)).mono ?_
  rintro e w5 ⟨rfl, h1⟩
  have HB5 := Lib.hid (below_step HB4.out h1); clear h1 HB4
  go_wp2_with fail
  refine (TB.out _ (HI.out.below HB5.out)).mono ?_
  rintro e w6 ⟨rfl, h1⟩
  have HB6 := Lib.hid (below_step HB5.out h1); clear h1 HB5
  generalize textL a = la at *
  have hp1 := str_pre 48 la
  have hp2 := str_pre 43 la
  go_wp2_with fail
  refine (P1.out _).mono ?_
  rintro e w7 ⟨rfl, h1⟩
  have HB7 := Lib.hid (below_step HB6.out h1); clear h1 HB6
  go_wp2_with fail
  refine (P2.out _).mono ?_
  rintro e w8 ⟨rfl, h1⟩
  have HB8 := Lib.hid (below_step HB7.out h1); clear h1 HB7
  generalize paN (48 :: la) = z1 at *
  go_wp2_with fail
  refine (P3.out _).mono ?_
  rintro e w9 ⟨rfl, h1⟩
  have HB9 := Lib.hid (below_step HB8.out h1); clear h1 HB8
  generalize paN (43 :: la) = z2 at *
  go_wp2_with fail
  refine (IN.out _).mono ?_
  rintro e wa ⟨rfl, rfl⟩
  have HBa := Lib.hid HB9.out; clear HB9
  go_wp2_with fail
  refine (works_any _ (HI.out.below HBa.out)).mono ?_
  rintro e wb ⟨rfl, h1⟩
  go_wp2_with fail
  go_ret
  exact ⟨rfl, below_step HBa.out h1⟩
set_option maxRecDepth 100000 in
set_option maxHeartbeats 4000000 in
theorem walk_gt_odd (n m a b : Int) (w : World) (hI : Inv w) (hn : wrap32 n = a) (hm : wrap32 m = b) (hs : b < a) (hp : a % 2 = 1) : Calls Tryd.prog 9 #[.int .i64 n, .int .i64 m] w (Ret (.bool true) w) := by
  have BN : Hid (∀ w, Calls Tryd.prog 36 #[.int .i64 n] w fun e w' => e = .returned (.int .i64 a) ∧ w = w') := Lib.hid (fun w => hn ▸ bword_any n w)
  have BM : Hid (∀ w, Calls Tryd.prog 36 #[.int .i64 m] w fun e w' => e = .returned (.int .i64 b) ∧ w = w') := Lib.hid (fun w => hm ▸ bword_any m w)
  have ha : isW a := hn ▸ wrap32_word n
  have hb : isW b := hm ▸ wrap32_word m
  clear hn hm
  have HI := Lib.hid hI; clear hI
  have hwa := isWb_of a ha
  have hwb := isWb_of b hb
  have E5 : V 5 a b = 0 := by rw [V5, decide_eq_false (by omega)]; rfl
  have C5 : Hid (∀ w, Calls Tryd.prog 39 #[.int .i64 5, .int .i64 a, .int .i64 b] w (Ret (.int .i64 0) w)) := Lib.hid (fun w => by have := value39_any 5 a b w; rw [v_val (by decide) ha hb (by simp [trapsb]), E5] at this; exact this)
  have E6 : V 6 a b = 0 := by rw [V6, beq_eq_false_iff_ne.2 (by omega)]; rfl
  have C6 : Hid (∀ w, Calls Tryd.prog 39 #[.int .i64 6, .int .i64 a, .int .i64 b] w (Ret (.int .i64 0) w)) := Lib.hid (fun w => by have := value39_any 6 a b w; rw [v_val (by decide) ha hb (by simp [trapsb]), E6] at this; exact this)
  have E7 : V 7 a b = b := by rw [V7]; omega
  have C7 : Hid (∀ w, Calls Tryd.prog 39 #[.int .i64 7, .int .i64 a, .int .i64 b] w (Ret (.int .i64 b) w)) := Lib.hid (fun w => by have := value39_any 7 a b w; rw [v_val (by decide) ha hb (by simp [trapsb]), E7] at this; exact this)
  have E8 : V 8 a b = a := by rw [V8]; omega
  have C8 : Hid (∀ w, Calls Tryd.prog 39 #[.int .i64 8, .int .i64 a, .int .i64 b] w (Ret (.int .i64 a) w)) := Lib.hid (fun w => by have := value39_any 8 a b w; rw [v_val (by decide) ha hb (by simp [trapsb]), E8] at this; exact this)
  clear E5 E6 E7 E8
  have KA : Hid (∀ w, Calls Tryd.prog 26 #[.int .i64 a] w fun e w' => e = .returned (.tuple #[.int .i64 (a + 2147483648), .int .i64 0]) ∧ w = w') := Lib.hid (fun w => key_t a w hwa)
  have KB : Hid (∀ w, Calls Tryd.prog 26 #[.int .i64 b] w fun e w' => e = .returned (.tuple #[.int .i64 (b + 2147483648), .int .i64 0]) ∧ w = w') := Lib.hid (fun w => key_t b w hwb)
  have OK : Hid (∀ w, Calls Tryd.prog 28 #[.int .i64 (a + 2147483648)] w fun e w' => e = .returned (.tuple #[.int .i64 a, .int .i64 0]) ∧ w = w') := Lib.hid (fun w => by have := ofkey_any (a + 2147483648) w; rw [(ofkey_key a ha).1, (ofkey_key a ha).2] at this; exact this)
  have TA : Hid (∀ w, Inv w → Calls Tryd.prog 30 #[.int .i64 a] w (Ret (.tuple #[.string ⟨(textL a).toArray⟩, .int .i64 0]) w)) := Lib.hid (fun w h => by have := text_any a w h; rw [show wE a = 0 from by simp [wE, hwa]] at this; exact this)
  have TB : Hid (∀ w, Inv w → Calls Tryd.prog 30 #[.int .i64 b] w (Ret (.tuple #[.string ⟨(textL b).toArray⟩, .int .i64 0]) w)) := Lib.hid (fun w h => by have := text_any b w h; rw [show wE b = 0 from by simp [wE, hwb]] at this; exact this)
  have hlen := text_len a ha
  have P1 : Hid (∀ w, Calls Tryd.prog 32 #[.string ⟨(textL a).toArray⟩] w (Ret (.tuple #[.int .i64 a, .int .i64 0]) w)) := Lib.hid (fun w => by have := parse_list (textL a) (by omega) w; rw [(read_text a ha).1, (read_text a ha).2] at this; exact this)
  have P2 : Hid (∀ w, Calls Tryd.prog 32 #[.string ⟨(48 :: textL a).toArray⟩] w (Ret (.tuple #[.int .i64 (paN (48 :: textL a)), .int .i64 8]) w)) := Lib.hid (fun w => by have := parse_list (48 :: textL a) (by simp; omega) w; rw [read_zero a ha] at this; exact this)
  have P3 : Hid (∀ w, Calls Tryd.prog 32 #[.string ⟨(43 :: textL a).toArray⟩] w (Ret (.tuple #[.int .i64 (paN (43 :: textL a)), .int .i64 8]) w)) := Lib.hid (fun w => by have := parse_list (43 :: textL a) (by simp; omega) w; rw [read_plus a] at this; exact this)
  have hst : (textL a == textL b) = false := by rw [beq_eq_false_iff_ne]; intro e; have := (text_inj a b ha hb).1 e; omega
  have hab : (a == b) = false := by rw [beq_eq_false_iff_ne]; omega
  have IN : Hid (∀ w, Calls Tryd.prog 24 #[.int .i64 a] w fun e w' => e = .returned (.tuple #[.int .i64 (nwI a 4), .int .i64 0]) ∧ w = w') := Lib.hid (fun w => inverse_v a w hwa ((odd_tmod a).1 hp))
  have hx := nwI_word a ha 4
  have C2 : Hid (∀ w, Calls Tryd.prog 39 #[.int .i64 2, .int .i64 a, .int .i64 (nwI a 4)] w (Ret (.int .i64 1) w)) := Lib.hid (fun w => by have := value39_any 2 a (nwI a 4) w; rw [v_val (by decide) ha hx (by simp [trapsb]), inv_one a ha hp] at this; exact this)
  have hpar : (a.tmod 2 == 0) = false := by rw [beq_eq_false_iff_ne]; exact (odd_tmod a).1 hp
  clear hx hp
  generalize nwI a 4 = ix at *
  clear hwa hwb
  unfold isW at ha hb
  obtain ⟨ka, hka⟩ : ∃ x, x = a + 2147483648 := ⟨_, rfl⟩
  obtain ⟨kb, hkb⟩ : ∃ x, x = b + 2147483648 := ⟨_, rfl⟩
  rw [← hka] at KA OK
  rw [← hkb] at KB
  have hkk : (kb - ka != b - a) = false := by rw [bne_eq_false_iff_eq]; omega
  have hkl : ¬ ka < kb := by omega
  have hke : (ka == kb) = false := by rw [beq_eq_false_iff_ne]; omega
  have hb2 : 0 ≤ kb ∧ kb ≤ 4294967295 := by omega
  have hb1 : 0 ≤ ka ∧ ka ≤ 4294967295 := by omega
  clear hkb hs
  clear hka
  go_enter Tryd.func9, Tryd.ntmps9
  go_wp2_with fail
  refine (BN.out _).mono ?_
  rintro e w1 ⟨rfl, rfl⟩
  go_wp2_with fail
  refine (BM.out _).mono ?_
  rintro e w1 ⟨rfl, rfl⟩
  go_wp2_with fail
  refine (KA.out _).mono ?_
  rintro e w1 ⟨rfl, rfl⟩
  go_wp2_with fail
  refine (KB.out _).mono ?_
  rintro e w1 ⟨rfl, rfl⟩
  go_wp2_with fail
  refine (OK.out _).mono ?_
  rintro e w1 ⟨rfl, rfl⟩
  go_wp2_with fail
  refine (lies_t _ _ _ _ hb1).mono ?_
  rintro e w1 ⟨rfl, rfl⟩
  go_wp2_with fail
  refine (C5.out _).mono ?_
  rintro e w1 ⟨rfl, h1⟩
  have HB1 := Lib.hid h1; clear h1
  go_wp2_with fail
  refine (C6.out _).mono ?_
  rintro e w2 ⟨rfl, h1⟩
  have HB2 := Lib.hid (below_step HB1.out h1); clear h1 HB1
  go_wp2_with fail
  refine (C7.out _).mono ?_
  rintro e w3 ⟨rfl, h1⟩
  have HB3 := Lib.hid (below_step HB2.out h1); clear h1 HB2
  go_wp2_with fail
  refine (C8.out _).mono ?_
  rintro e w4 ⟨rfl, h1⟩
  have HB4 := Lib.hid (below_step HB3.out h1); clear h1 HB3
  go_wp2_with fail
  refine (TA.out _ (HI.out.below HB4.out)).mono ?_
  rintro e w5 ⟨rfl, h1⟩
  have HB5 := Lib.hid (below_step HB4.out h1); clear h1 HB4
  go_wp2_with fail
  refine (TB.out _ (HI.out.below HB5.out)).mono ?_
  rintro e w6 ⟨rfl, h1⟩
  have HB6 := Lib.hid (below_step HB5.out h1); clear h1 HB5
  generalize textL a = la at *
  generalize textL b = lb at *
  have hp1 := str_pre 48 la
  have hp2 := str_pre 43 la
  go_wp2_with fail
  refine (P1.out _).mono ?_
  rintro e w7 ⟨rfl, h1⟩
  have HB7 := Lib.hid (below_step HB6.out h1); clear h1 HB6
  go_wp2_with fail
  refine (P2.out _).mono ?_
  rintro e w8 ⟨rfl, h1⟩
  have HB8 := Lib.hid (below_step HB7.out h1); clear h1 HB7
  generalize paN (48 :: la) = z1 at *
  go_wp2_with fail
  refine (P3.out _).mono ?_
  rintro e w9 ⟨rfl, h1⟩
  have HB9 := Lib.hid (below_step HB8.out h1); clear h1 HB8
  generalize paN (43 :: la) = z2 at *
  go_wp2_with fail
  refine (IN.out _).mono ?_
  rintro e wa ⟨rfl, rfl⟩
  go_wp2_with fail
  refine (C2.out _).mono ?_
  rintro e wa ⟨rfl, h1⟩
  have HBa := Lib.hid (below_step HB9.out h1); clear h1 HB9
  go_wp2_with fail
  refine (works_any _ (HI.out.below HBa.out)).mono ?_
  rintro e wb ⟨rfl, h1⟩
  go_wp2_with fail
  go_ret
  exact ⟨rfl, below_step HBa.out h1⟩
set_option maxRecDepth 100000 in
set_option maxHeartbeats 4000000 in
theorem walk_gt_even (n m a b : Int) (w : World) (hI : Inv w) (hn : wrap32 n = a) (hm : wrap32 m = b) (hs : b < a) (hp : a % 2 ≠ 1) : Calls Tryd.prog 9 #[.int .i64 n, .int .i64 m] w (Ret (.bool true) w) := by
  have BN : Hid (∀ w, Calls Tryd.prog 36 #[.int .i64 n] w fun e w' => e = .returned (.int .i64 a) ∧ w = w') := Lib.hid (fun w => hn ▸ bword_any n w)
  have BM : Hid (∀ w, Calls Tryd.prog 36 #[.int .i64 m] w fun e w' => e = .returned (.int .i64 b) ∧ w = w') := Lib.hid (fun w => hm ▸ bword_any m w)
  have ha : isW a := hn ▸ wrap32_word n
  have hb : isW b := hm ▸ wrap32_word m
  clear hn hm
  have HI := Lib.hid hI; clear hI
  have hwa := isWb_of a ha
  have hwb := isWb_of b hb
  have E5 : V 5 a b = 0 := by rw [V5, decide_eq_false (by omega)]; rfl
  have C5 : Hid (∀ w, Calls Tryd.prog 39 #[.int .i64 5, .int .i64 a, .int .i64 b] w (Ret (.int .i64 0) w)) := Lib.hid (fun w => by have := value39_any 5 a b w; rw [v_val (by decide) ha hb (by simp [trapsb]), E5] at this; exact this)
  have E6 : V 6 a b = 0 := by rw [V6, beq_eq_false_iff_ne.2 (by omega)]; rfl
  have C6 : Hid (∀ w, Calls Tryd.prog 39 #[.int .i64 6, .int .i64 a, .int .i64 b] w (Ret (.int .i64 0) w)) := Lib.hid (fun w => by have := value39_any 6 a b w; rw [v_val (by decide) ha hb (by simp [trapsb]), E6] at this; exact this)
  have E7 : V 7 a b = b := by rw [V7]; omega
  have C7 : Hid (∀ w, Calls Tryd.prog 39 #[.int .i64 7, .int .i64 a, .int .i64 b] w (Ret (.int .i64 b) w)) := Lib.hid (fun w => by have := value39_any 7 a b w; rw [v_val (by decide) ha hb (by simp [trapsb]), E7] at this; exact this)
  have E8 : V 8 a b = a := by rw [V8]; omega
  have C8 : Hid (∀ w, Calls Tryd.prog 39 #[.int .i64 8, .int .i64 a, .int .i64 b] w (Ret (.int .i64 a) w)) := Lib.hid (fun w => by have := value39_any 8 a b w; rw [v_val (by decide) ha hb (by simp [trapsb]), E8] at this; exact this)
  clear E5 E6 E7 E8
  have KA : Hid (∀ w, Calls Tryd.prog 26 #[.int .i64 a] w fun e w' => e = .returned (.tuple #[.int .i64 (a + 2147483648), .int .i64 0]) ∧ w = w') := Lib.hid (fun w => key_t a w hwa)
  have KB : Hid (∀ w, Calls Tryd.prog 26 #[.int .i64 b] w fun e w' => e = .returned (.tuple #[.int .i64 (b + 2147483648), .int .i64 0]) ∧ w = w') := Lib.hid (fun w => key_t b w hwb)
  have OK : Hid (∀ w, Calls Tryd.prog 28 #[.int .i64 (a + 2147483648)] w fun e w' => e = .returned (.tuple #[.int .i64 a, .int .i64 0]) ∧ w = w') := Lib.hid (fun w => by have := ofkey_any (a + 2147483648) w; rw [(ofkey_key a ha).1, (ofkey_key a ha).2] at this; exact this)
  have TA : Hid (∀ w, Inv w → Calls Tryd.prog 30 #[.int .i64 a] w (Ret (.tuple #[.string ⟨(textL a).toArray⟩, .int .i64 0]) w)) := Lib.hid (fun w h => by have := text_any a w h; rw [show wE a = 0 from by simp [wE, hwa]] at this; exact this)
  have TB : Hid (∀ w, Inv w → Calls Tryd.prog 30 #[.int .i64 b] w (Ret (.tuple #[.string ⟨(textL b).toArray⟩, .int .i64 0]) w)) := Lib.hid (fun w h => by have := text_any b w h; rw [show wE b = 0 from by simp [wE, hwb]] at this; exact this)
  have hlen := text_len a ha
  have P1 : Hid (∀ w, Calls Tryd.prog 32 #[.string ⟨(textL a).toArray⟩] w (Ret (.tuple #[.int .i64 a, .int .i64 0]) w)) := Lib.hid (fun w => by have := parse_list (textL a) (by omega) w; rw [(read_text a ha).1, (read_text a ha).2] at this; exact this)
  have P2 : Hid (∀ w, Calls Tryd.prog 32 #[.string ⟨(48 :: textL a).toArray⟩] w (Ret (.tuple #[.int .i64 (paN (48 :: textL a)), .int .i64 8]) w)) := Lib.hid (fun w => by have := parse_list (48 :: textL a) (by simp; omega) w; rw [read_zero a ha] at this; exact this)
  have P3 : Hid (∀ w, Calls Tryd.prog 32 #[.string ⟨(43 :: textL a).toArray⟩] w (Ret (.tuple #[.int .i64 (paN (43 :: textL a)), .int .i64 8]) w)) := Lib.hid (fun w => by have := parse_list (43 :: textL a) (by simp; omega) w; rw [read_plus a] at this; exact this)
  have hst : (textL a == textL b) = false := by rw [beq_eq_false_iff_ne]; intro e; have := (text_inj a b ha hb).1 e; omega
  have hab : (a == b) = false := by rw [beq_eq_false_iff_ne]; omega
  have he0 : a.tmod 2 = 0 := Classical.byContradiction fun h => hp ((odd_tmod a).2 h)
  have IN : Hid (∀ w, Calls Tryd.prog 24 #[.int .i64 a] w fun e w' => e = .returned (.tuple #[.int .i64 0, .int .i64 4]) ∧ w = w') := Lib.hid (fun w => inverse_e a w hwa he0)
  have hpar : (a.tmod 2 == 0) = true := by rw [beq_iff_eq]; exact he0
  clear hp he0
  clear hwa hwb
  unfold isW at ha hb
  obtain ⟨ka, hka⟩ : ∃ x, x = a + 2147483648 := ⟨_, rfl⟩
  obtain ⟨kb, hkb⟩ : ∃ x, x = b + 2147483648 := ⟨_, rfl⟩
  rw [← hka] at KA OK
  rw [← hkb] at KB
  have hkk : (kb - ka != b - a) = false := by rw [bne_eq_false_iff_eq]; omega
  have hkl : ¬ ka < kb := by omega
  have hke : (ka == kb) = false := by rw [beq_eq_false_iff_ne]; omega
  have hb2 : 0 ≤ kb ∧ kb ≤ 4294967295 := by omega
  have hb1 : 0 ≤ ka ∧ ka ≤ 4294967295 := by omega
  clear hkb hs
  clear hka
  go_enter Tryd.func9, Tryd.ntmps9
  go_wp2_with fail
  refine (BN.out _).mono ?_
  rintro e w1 ⟨rfl, rfl⟩
  go_wp2_with fail
  refine (BM.out _).mono ?_
  rintro e w1 ⟨rfl, rfl⟩
  go_wp2_with fail
  refine (KA.out _).mono ?_
  rintro e w1 ⟨rfl, rfl⟩
  go_wp2_with fail
  refine (KB.out _).mono ?_
  rintro e w1 ⟨rfl, rfl⟩
  go_wp2_with fail
  refine (OK.out _).mono ?_
  rintro e w1 ⟨rfl, rfl⟩
  go_wp2_with fail
  refine (lies_t _ _ _ _ hb1).mono ?_
  rintro e w1 ⟨rfl, rfl⟩
  go_wp2_with fail
  refine (C5.out _).mono ?_
  rintro e w1 ⟨rfl, h1⟩
  have HB1 := Lib.hid h1; clear h1
  go_wp2_with fail
  refine (C6.out _).mono ?_
  rintro e w2 ⟨rfl, h1⟩
  have HB2 := Lib.hid (below_step HB1.out h1); clear h1 HB1
  go_wp2_with fail
  refine (C7.out _).mono ?_
  rintro e w3 ⟨rfl, h1⟩
  have HB3 := Lib.hid (below_step HB2.out h1); clear h1 HB2
  go_wp2_with fail
  refine (C8.out _).mono ?_
  rintro e w4 ⟨rfl, h1⟩
  have HB4 := Lib.hid (below_step HB3.out h1); clear h1 HB3
  go_wp2_with fail
  refine (TA.out _ (HI.out.below HB4.out)).mono ?_
  rintro e w5 ⟨rfl, h1⟩
  have HB5 := Lib.hid (below_step HB4.out h1); clear h1 HB4
  go_wp2_with fail
  refine (TB.out _ (HI.out.below HB5.out)).mono ?_
  rintro e w6 ⟨rfl, h1⟩
  have HB6 := Lib.hid (below_step HB5.out h1); clear h1 HB5
  generalize textL a = la at *
  generalize textL b = lb at *
  have hp1 := str_pre 48 la
  have hp2 := str_pre 43 la
  go_wp2_with fail
  refine (P1.out _).mono ?_
  rintro e w7 ⟨rfl, h1⟩
  have HB7 := Lib.hid (below_step HB6.out h1); clear h1 HB6
  go_wp2_with fail
  refine (P2.out _).mono ?_
  rintro e w8 ⟨rfl, h1⟩
  have HB8 := Lib.hid (below_step HB7.out h1); clear h1 HB7
  generalize paN (48 :: la) = z1 at *
  go_wp2_with fail
  refine (P3.out _).mono ?_
  rintro e w9 ⟨rfl, h1⟩
  have HB9 := Lib.hid (below_step HB8.out h1); clear h1 HB8
  generalize paN (43 :: la) = z2 at *
  go_wp2_with fail
  refine (IN.out _).mono ?_
  rintro e wa ⟨rfl, rfl⟩
  have HBa := Lib.hid HB9.out; clear HB9
  go_wp2_with fail
  refine (works_any _ (HI.out.below HBa.out)).mono ?_
  rintro e wb ⟨rfl, h1⟩
  go_wp2_with fail
  go_ret
  exact ⟨rfl, below_step HBa.out h1⟩
theorem walk (n m : Int) (w : World) (hI : Inv w) : Calls Tryd.prog 9 #[.int .i64 n, .int .i64 m] w (Ret (.bool true) w) := by
  by_cases hp : wrap32 n % 2 = 1
  · by_cases hl : wrap32 n < wrap32 m
    · exact walk_lt_odd n m _ _ w hI rfl rfl hl hp
    · by_cases he : wrap32 m = wrap32 n
      · exact walk_eq_odd n m _ w hI rfl he hp
      · exact walk_gt_odd n m _ _ w hI rfl rfl (by omega) hp
  · by_cases hl : wrap32 n < wrap32 m
    · exact walk_lt_even n m _ _ w hI rfl rfl hl hp
    · by_cases he : wrap32 m = wrap32 n
      · exact walk_eq_even n m _ w hI rfl he hp
      · exact walk_gt_even n m _ _ w hI rfl rfl (by omega) hp

/-! ### the row and the card -/
theorem own : ownKnob Tryd.prog.godebug = none := by kernel_rfl
theorem door_met (os : Os) (args : Array Value) : laidMetH Tryd.prog Rows.wordOrdersRow.laid ((World.doorLaid Tryd.prog 65 os).forCall (fun _ _ => 0) ⟨#[], args, []⟩).memory :=
  laidMetH_of_parts3 (fuel := 8) (laidMet_of_run' 8 (by kernel_rfl) (by kernel_rfl)) (by kernel_rfl) (by kernel_rfl)
set_option maxRecDepth 100000 in
theorem lifted (os : Os) (started : os.Started) (H : Type) (enc : TypeId × Value → H) :
    ReturnsInHanded {} Tryd.checked os 9 .any (fun w args => (Rows.wordOrdersSpec.pre enc Tryd.prog Tryd.f9 [] false w args ∧ laidMetH Tryd.prog Rows.wordOrdersRow.laid w) ∧ sizedMet enc Tryd.prog Tryd.f9 (OpenSpec.ofChange Rows.wordOrdersSpec) false w args)
      (Rows.wordOrdersSpec.post enc Tryd.prog Tryd.f9 false true false false) := by
  refine returnsInHanded_of_change_and (C := Tryd.checked) (X := fun w _ => laidMetH Tryd.prog Rows.wordOrdersRow.laid w) (fun _ _ _ hh h => h.of_heap hh) own started (by kernel_rfl) Tryd.func9
    (ChangeSpec.witness_shaped (enc := enc) (C := Tryd.checked) (os := os) (X := fun w _ => laidMetH Tryd.prog Rows.wordOrdersRow.laid w) false (World.doorLaid Tryd.prog 65 os) #[.int .i64 0, .int .i64 0] 8 rfl (World.shaped_of_RefB (by kernel_rfl) (by kernel_rfl)) (by kernel_rfl) (by kernel_rfl) (by kernel_rfl) (door_met os _)) ?_
  intro W base args ds gs before hval0 hW _ _ hL _
  have hval : ∀ (j : Nat) t v, Tryd.f9.params[j]? = some t → args[j]? = some v → Value.okWide Tryd.prog W .any base t v := hval0
  have hW' := hW
  obtain ⟨p, q, hA0, hV, rfl, hfz, hnd⟩ := hW
  have hA : DataW.TrodAll enc Tryd.prog W 0 (fun _ => true) true Tryd.f9.params.toList args.toList ds p := hA0
  rw [Tryd.params9] at hA hval
  obtain ⟨v0, vs0, d0, ds0, p0, q0, hargs, rfl, rfl, h0, r0⟩ := trodAll_cons hA
  obtain ⟨v1, vs1, d1, ds1, p1, q1, rfl, rfl, rfl, h1, r1⟩ := trodAll_cons r0
  obtain ⟨rfl, rfl, rfl⟩ := trodAll_nil r1
  obtain rfl : args = #[v0, v1] := by cases args; simp_all
  obtain ⟨rfl, rfl⟩ := trodVars_none hV
  obtain ⟨a0, rfl, rfl, rfl, w0⟩ := open_int Tryd.underlying3 (hval 0 3 v0 rfl rfl) h0
  obtain ⟨a1, rfl, rfl, rfl, w1⟩ := open_int Tryd.underlying3 (hval 1 3 v1 rfl rfl) h1
  clear hA0 hval0
  simp only [List.append_nil] at hW'
  refine (walk a0 a1  W (of_laid hL)).mono fun e W' ⟨he, hg⟩ => ?_
  subst he
  exact ⟨_, rfl, _, _, _, [], [], [], hW', trodAll_cons_mk (shut_bool Tryd.underlying4 _) trodAll_mk0, trodAll_cons_mk (shut_int Tryd.underlying3 w0) (trodAll_cons_mk (shut_int Tryd.underlying3 w1) trodAll_mk0), rfl, hg.frame _, fun h => by cases h⟩
theorem holds : Rows.WordOrdersSaid :=
  OpenClaim.holds_of_wide 9 Tryd.f9 rfl rfl rfl rfl rfl rfl rfl ⟨rfl, rfl, rfl, rfl, rfl⟩ rfl rfl rfl rfl rfl (by kernel_rfl) Tryd.func9 (by kernel_rfl)
    (of_decide_eq_true (by kernel_rfl)) (by unfold Func.isWrapper; first | (rw [if_pos (by decide +kernel)]; kernel_rfl) | (rw [if_neg (by decide +kernel)]; exact ⟨rfl, rfl⟩))
    (fun os started H enc _ => lifted os started H enc)
theorem proved : Rows.WordOrdersCardSaid :=
  Claim7.holds_tied_plain_at .later [] [.data, .data, .data, .data] true (true, "92663498427d49479742040ab7689a64217b0d7b0624e792c2ddd20f6cd25577") false
    holds (fun _ h => by cases h) (by kernel_rfl) (fun _ h => by cases h) wordOrders_row_tie rfl ⟨rfl, rfl⟩ (by kernel_rfl) rfl
    (fun f fn hf hfn => by
      obtain rfl : f = 9 := Option.some.inj ((show Tryd.prog.funcNamed "sheafworks/sheafworkslaw01.WordOrders" = some 9 by kernel_rfl).symm.trans hf) |>.symm
      obtain rfl : fn = Tryd.f9 := (Option.some.inj (Tryd.func9.symm.trans hfn)).symm
      exact ⟨by kernel_rfl, fun j t ht => by
        rw [Tryd.params9] at ht
        have hm : t ∈ [3] := by
          have := Array.mem_of_getElem? ht
          simpa using this
        have hall : ([3].all fun u => !Tryd.prog.wantsStandIn u) = true := by kernel_rfl
        exact (show Tryd.prog.wantsStandIn t = false by simpa using List.all_eq_true.1 hall t hm)⟩)
    (by kernel_rfl)
#print axioms proved
end Go.Proofs.YthbgingclpponaaDoor.wordOrders
