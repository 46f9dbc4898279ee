/- Walks, part g: powers. -/
import Derived.Test.YthbgingclpponaaDoorWe
import Derived.Test.YthbgingclpponaaDoorWf
import Derived.Test.YthbgingclpponaaDoorMc
namespace Go.Proofs.YthbgingclpponaaDoor
open Go.RowKit
set_option linter.unusedVariables false

/-- what the closure of 'Power' has captured -/
structure Clo (w : World) (pn pj po pa : Addr) (op a : Int) : Prop where
  n : w.cell? pn = some (.int .i64 (nt op))
  j : w.cell? pj = some (.func (.func 49) #[] #[.pointer (some pn), .pointer (some pj), .pointer (some po), .pointer (some pa)])
  o : w.cell? po = some (.int .i64 op)
  a : w.cell? pa = some (.int .i64 a)
  ln : pn.block < w.heap.size
  lj : pj.block < w.heap.size
  lo : po.block < w.heap.size
  la : pa.block < w.heap.size
theorem Clo.below {w w' : World} {pn pj po pa : Addr} {op a : Int} (h : Clo w pn pj po pa op a) (hb : Below w.heap.size w w') : Clo w' pn pj po pa op a :=
  ⟨(hb.cell h.ln).trans h.n, (hb.cell h.lj).trans h.j, (hb.cell h.lo).trans h.o, (hb.cell h.la).trans h.a, Nat.lt_of_lt_of_le h.ln hb.size, Nat.lt_of_lt_of_le h.lj hb.size, Nat.lt_of_lt_of_le h.lo hb.size, Nat.lt_of_lt_of_le h.la hb.size⟩
theorem join_any (op a : Int) (hA : aB op = true) (ha : isW a) (pn pj po pa : Addr) (K : Nat) : ∀ (n : Nat) (w : World), n ≤ K → n ≤ 9223372036854775807 → Clo w pn pj po pa op a →
    Calls Tryd.prog 49 #[.int .i64 n, .pointer (some pn), .pointer (some pj), .pointer (some po), .pointer (some pa)] w (Ret (.int .i64 (PW op a n)) w) := by
  induction K using Nat.strongRecOn with
  | ind K ih =>
  intro n w hK hmax hc
  by_cases h0 : n = 0
  · subst h0
    have HZ := Lib.hid (PW_zero a hA)
    have c1 := hc.n
    go_enter Tryd.func49, Tryd.ntmps49
    go_wp2_with fail
    go_ret
    exact ⟨ret_int HZ.out.symm, Below.refl _ _⟩
  · have hn1 : 1 ≤ n := by omega
    have HI := Lib.hid (ih (n / 2) (by omega) (n / 2) w (Nat.le_refl _) (by omega) hc)
    clear ih
    have hz : ((n : Int) == 0) = false := by simp; omega
    have HH : Hid (((n : Int) / 2) = ((n / 2 : Nat) : Int)) := Lib.hid (by omega)
    have hW := PW_word op a (n / 2) ha
    have hV := V_word op _ _ hW hW (aB_trap _ hA)
    have HHW := Lib.hid hW; have HHV := Lib.hid hV; have HA := Lib.hid hA; have Ha := Lib.hid ha
    have c2 := hc.j
    by_cases hp : n % 2 = 0
    · have HE := Lib.hid (PW_even n hA ha hp)
      have hp' : ((n : Int) % 2 == 0) = true := by simp; omega
      clear hW hV hA ha hp
      go_enter Tryd.func49, Tryd.ntmps49
      go_wp2_with fail
      rw [HH.out]
      refine HI.out.mono ?_
      rintro e w1 ⟨rfl, hb1⟩
      have hc1 := hc.below hb1
      have c3 := hc1.o
      clear c2
      go_wp2_with fail
      refine (value_any op _ _ (aB_op HA.out) HHW.out HHW.out (aB_trap _ HA.out) _).mono ?_
      rintro e w2 ⟨rfl, hb2⟩
      clear c3
      go_wp2_with fail
      go_ret
      exact ⟨ret_int HE.out, below_step hb1 hb2⟩
    · have HE := Lib.hid (PW_odd n hA ha (by omega))
      have hp' : ((n : Int) % 2 == 0) = false := by simp; omega
      clear hW hV hA ha hp
      go_enter Tryd.func49, Tryd.ntmps49
      go_wp2_with fail
      rw [HH.out]
      refine HI.out.mono ?_
      rintro e w1 ⟨rfl, hb1⟩
      have hc1 := hc.below hb1
      have c3 := hc1.o
      clear c2
      go_wp2_with fail
      refine (value_any op _ _ (aB_op HA.out) HHW.out HHW.out (aB_trap _ HA.out) _).mono ?_
      rintro e w2 ⟨rfl, hb2⟩
      clear c3
      have hc2 := hc1.below hb2
      have c3 := hc2.o
      have c4 := hc2.a
      go_wp2_with fail
      refine (value_any op _ _ (aB_op HA.out) HHV.out Ha.out (aB_trap _ HA.out) _).mono ?_
      rintro e w3 ⟨rfl, hb3⟩
      go_wp2_with fail
      go_ret
      exact ⟨ret_int HE.out, below_step (below_step hb1 hb2) hb3⟩
theorem rpower_any (op a : Int) (hA : aB op = true) (ha : isW a) (K : Nat) : ∀ (n : Nat) (w : World), n ≤ K → n ≤ 9223372036854775807 →
    Calls Tryd.prog 50 #[.int .i64 op, .int .i64 a, .int .i64 n] w (Ret (.int .i64 (PW op a n)) w) := by
  induction K using Nat.strongRecOn with
  | ind K ih =>
  intro n w hK hmax
  by_cases h0 : n = 0
  · subst h0
    have HZ := Lib.hid (PW_zero a hA)
    have HN := Lib.hid (rneutral_t op w hA)
    go_enter Tryd.func50, Tryd.ntmps50
    go_wp2_with fail
    refine HN.out.mono ?_
    rintro e w1 ⟨rfl, hb1⟩
    go_wp2_with fail
    go_ret
    exact ⟨ret_int HZ.out.symm, hb1⟩
  · have hn1 : 1 ≤ n := by omega
    have HI := Lib.hid (ih (n / 2) (by omega) (n / 2) w (Nat.le_refl _) (by omega))
    clear ih
    have hz : ((n : Int) == 0) = false := by simp; omega
    have HH : Hid (((n : Int) / 2) = ((n / 2 : Nat) : Int)) := Lib.hid (by omega)
    have hW := PW_word op a (n / 2) ha
    have hV := V_word op _ _ hW hW (aB_trap _ hA)
    have HHW := Lib.hid hW; have HHV := Lib.hid hV; have HA := Lib.hid hA; have Ha := Lib.hid ha
    by_cases hp : n % 2 = 0
    · have HE := Lib.hid (PW_even n hA ha hp)
      have hp' : ((n : Int) % 2 == 1) = false := by simp; omega
      clear hW hV hA ha hp
      go_enter Tryd.func50, Tryd.ntmps50
      go_wp2_with fail
      rw [HH.out]
      refine HI.out.mono ?_
      rintro e w1 ⟨rfl, hb1⟩
      go_wp2_with fail
      refine (rvalue_any op _ _ (aB_op HA.out) HHW.out HHW.out (aB_trap _ HA.out) _).mono ?_
      rintro e w2 ⟨rfl, rfl⟩
      go_wp2_with fail
      go_ret
      exact ⟨ret_int HE.out, hb1⟩
    · have HE := Lib.hid (PW_odd n hA ha (by omega))
      have hp' : ((n : Int) % 2 == 1) = true := by simp; omega
      clear hW hV hA ha hp
      go_enter Tryd.func50, Tryd.ntmps50
      go_wp2_with fail
      rw [HH.out]
      refine HI.out.mono ?_
      rintro e w1 ⟨rfl, hb1⟩
      go_wp2_with fail
      refine (rvalue_any op _ _ (aB_op HA.out) HHW.out HHW.out (aB_trap _ HA.out) _).mono ?_
      rintro e w2 ⟨rfl, rfl⟩
      go_wp2_with fail
      refine (rvalue_any op _ _ (aB_op HA.out) HHV.out Ha.out (aB_trap _ HA.out) _).mono ?_
      rintro e w3 ⟨rfl, rfl⟩
      go_wp2_with fail
      go_ret
      exact ⟨ret_int HE.out, hb1⟩
end Go.Proofs.YthbgingclpponaaDoor
