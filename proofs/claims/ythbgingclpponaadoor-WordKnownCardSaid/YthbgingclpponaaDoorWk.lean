/- Walks, part k: the operation of a name. -/
import Derived.Test.YthbgingclpponaaDoorWf
import Derived.Test.YthbgingclpponaaDoorWe
import Derived.Test.YthbgingclpponaaDoorMf
import Derived.Maps.OwnOps
import Derived.StringKeys
import Derived.Lib.Strings
namespace Go.Proofs.YthbgingclpponaaDoor
open Go.RowKit Go.Maps Go.WideMaps
set_option linter.unusedVariables false
theorem keyed9 : Keyed Tryd.prog 9 := string_keyed Tryd.underlying9
theorem zero3 (w : World) : (zeroValue 3).run Tryd.prog w = .ok (.int .i64 0) w := by kernel_rfl
theorem op_any (s : ByteArray) (hs : s.size ≤ maxLen) (w : World) : Calls Tryd.prog 34 #[.string s] w (Ret (.tuple #[.int .i64 (opN s.data.toList), .int .i64 (opX s.data.toList)]) w) := by
  have hmm := @run_makeMap Tryd.prog
  have o0 := World.ownsMap_made (H := Unit) w Tryd.prog 9 (plainElem Tryd.prog 3)
  obtain ⟨w1, r1, o1, g1⟩ := o0.update (key := .string ⟨#[43]⟩) keyed9 Tryd.underlying58 (by decide) (keyOf_string_mk Tryd.underlying9 (by decide)) (plainElem_int Tryd.underlying3 (a := 0) (by decide))
  obtain ⟨w2, r2, o2, g2⟩ := o1.update (key := .string ⟨#[45]⟩) keyed9 Tryd.underlying58 (by decide) (keyOf_string_mk Tryd.underlying9 (by decide)) (plainElem_int Tryd.underlying3 (a := 1) (by decide))
  obtain ⟨w3, r3, o3, g3⟩ := o2.update (key := .string ⟨#[42]⟩) keyed9 Tryd.underlying58 (by decide) (keyOf_string_mk Tryd.underlying9 (by decide)) (plainElem_int Tryd.underlying3 (a := 2) (by decide))
  obtain ⟨w4, r4, o4, g4⟩ := o3.update (key := .string ⟨#[47]⟩) keyed9 Tryd.underlying58 (by decide) (keyOf_string_mk Tryd.underlying9 (by decide)) (plainElem_int Tryd.underlying3 (a := 3) (by decide))
  obtain ⟨w5, r5, o5, g5⟩ := o4.update (key := .string ⟨#[37]⟩) keyed9 Tryd.underlying58 (by decide) (keyOf_string_mk Tryd.underlying9 (by decide)) (plainElem_int Tryd.underlying3 (a := 4) (by decide))
  obtain ⟨w6, r6, o6, g6⟩ := o5.update (key := .string ⟨#[60]⟩) keyed9 Tryd.underlying58 (by decide) (keyOf_string_mk Tryd.underlying9 (by decide)) (plainElem_int Tryd.underlying3 (a := 5) (by decide))
  obtain ⟨w7, r7, o7, g7⟩ := o6.update (key := .string ⟨#[61]⟩) keyed9 Tryd.underlying58 (by decide) (keyOf_string_mk Tryd.underlying9 (by decide)) (plainElem_int Tryd.underlying3 (a := 6) (by decide))
  obtain ⟨w8, r8, o8, g8⟩ := o7.update (key := .string ⟨#[109, 105, 110]⟩) keyed9 Tryd.underlying58 (by decide) (keyOf_string_mk Tryd.underlying9 (by decide)) (plainElem_int Tryd.underlying3 (a := 7) (by decide))
  obtain ⟨w9, r9, o9, g9⟩ := o8.update (key := .string ⟨#[109, 97, 120]⟩) keyed9 Tryd.underlying58 (by decide) (keyOf_string_mk Tryd.underlying9 (by decide)) (plainElem_int Tryd.underlying3 (a := 8) (by decide))
  obtain ⟨wa, ra, oa, ga⟩ := o9.update (key := .string ⟨#[38]⟩) keyed9 Tryd.underlying58 (by decide) (keyOf_string_mk Tryd.underlying9 (by decide)) (plainElem_int Tryd.underlying3 (a := 9) (by decide))
  obtain ⟨wb, rb, ob, gb⟩ := oa.update (key := .string ⟨#[124]⟩) keyed9 Tryd.underlying58 (by decide) (keyOf_string_mk Tryd.underlying9 (by decide)) (plainElem_int Tryd.underlying3 (a := 10) (by decide))
  obtain ⟨wc, rc, oc, gc⟩ := ob.update (key := .string ⟨#[94]⟩) keyed9 Tryd.underlying58 (by decide) (keyOf_string_mk Tryd.underlying9 (by decide)) (plainElem_int Tryd.underlying3 (a := 11) (by decide))
  obtain ⟨v, ps, rl, hv⟩ := oc.look_ok keyed9 Tryd.underlying58 (zero3 _) (plainElem_int Tryd.underlying3 (a := 0) (by decide)) (keyOf_string_mk Tryd.underlying9 hs)
  obtain ⟨c, rfl, hc, hwc⟩ := plainElem_int_inv Tryd.underlying3 hv
  have hD := opD_look (H := Unit) s.data.toList
  have hc1 : c = opN s.data.toList := by
    have := (congrArg Prod.fst hc).symm.trans hD.2
    simpa using this
  have hk : Maps.has (opD (H := Unit)) (.string s.data.toList) = (opOf s.data.toList).isSome := hD.1
  subst hc1
  have HB : Hid (Below w.heap.size w wc) := Lib.hid (by
    have h0 : Below w.heap.size w (w.alloc (.map #[] 0)) := (Below.refl _ _).alloc (Nat.le_refl _) _
    have st : ∀ {x y : World}, Below w.heap.size w x → x.grownBy y (some w.heap.size) → Below w.heap.size w y := fun h g => h.grown g h.size (fun k hk => by cases hk; exact Nat.le_refl _)
    exact (st (st (st (st (st (st (st (st (st (st (st (st h0 g1) g2) g3) g4) g5) g6) g7) g8) g9) ga) gb) gc))
  have rl' : (Instr.lookup 58 (.map (some w.heap.size)) (.string s) true).run Tryd.prog wc = .ok (.tuple #[.int .i64 (opN s.data.toList), .bool (opOf s.data.toList).isSome]) wc := by rw [← hk]; exact rl
  clear rl hk hD o0 o1 o2 o3 o4 o5 o6 o7 o8 o9 oa ob oc g1 g2 g3 g4 g5 g6 g7 g8 g9 ga gb gc hv hc hwc
  cases ho : opOf s.data.toList with
  | none =>
    have HN : Hid (opN s.data.toList = 0) := Lib.hid (by simp [opN, ho])
    have HX : Hid (opX s.data.toList = 4) := Lib.hid (by simp [opX, ho])
    rw [ho, HN.out] at rl'
    clear ho
    go_enter Tryd.func34, Tryd.ntmps34
    go_wp2
    go_ret2
    exact ⟨by rw [HN.out, HX.out] <;> rfl, HB.out⟩
  | some k =>
    have HX : Hid (opX s.data.toList = 0) := Lib.hid (by simp [opX, ho])
    rw [ho] at rl'
    generalize opN s.data.toList = m at *
    clear ho
    go_enter Tryd.func34, Tryd.ntmps34
    go_wp2
    go_ret2
    exact ⟨by rw [HX.out] <;> rfl, HB.out⟩

def whN (l : List UInt8) : Int := match opOf l with | some k => k | none => -1
theorem where_any (s : ByteArray) (b : Nat) (w : World) (hc : ∀ j : Nat, j < 12 → w.cell? ⟨b, j, none⟩ = some (.string ⟨(nameL (j : Nat)).toArray⟩)) :
    Calls Tryd.prog 57 #[.slice (some ⟨b, 0, none⟩) 12 12, .string s] w fun e w' => e = .returned (.int .i64 (whN s.data.toList)) ∧ w = w' := by
  have HC := Lib.hid hc; clear hc
  go_enter Tryd.func57, Tryd.ntmps57
  go_wp2
  go_loop [5] (fun i => ∃ k : Nat, k ≤ 12 ∧ i = .int .i64 k ∧ ∀ j : Nat, j < k → nameL (j : Nat) ≠ s.data.toList) (fun i => 12 - (intOf i).toNat)
  case atStart => exact ⟨0, Nat.zero_le _, rfl, fun j hj => by omega⟩
  case round =>
    obtain ⟨k, hk, rfl, hn⟩ := hrel
    have HN := Lib.hid hn; clear hn
    by_cases hlt : k < 12
    · have hcell := HC.out k hlt
      by_cases he : nameL (k : Nat) = s.data.toList
      · have HW : Hid (whN s.data.toList = k) := Lib.hid (by simp [whN, opOf_first k hlt he HN.out])
        have he' : (nameL (k : Nat) == s.toList) = true := by rw [beq_iff_eq, he, Lib.toList_data]
        clear he
        go_wp2
        go_ret
        exact ⟨ret_int HW.out.symm, rfl⟩
      · have he' : (nameL (k : Nat) == s.toList) = false := by rw [beq_eq_false_iff_ne, Lib.toList_data]; exact he
        have HE := Lib.hid he
        clear he
        go_wp2
        go_round
        case rel => exact ⟨k + 1, by omega, by go_num, fun j hj => by
          by_cases e : j = k
          · subst e; exact HE.out
          · exact HN.out j (by omega)⟩
        case measure => simp [intOf]; omega
    · obtain rfl : k = 12 := by omega
      have HW : Hid (whN s.data.toList = -1) := Lib.hid (by simp [whN, opOf_none HN.out])
      go_wp2
      go_ret
      exact ⟨ret_int HW.out.symm, rfl⟩
theorem rop_any (s : ByteArray) (w : World) : Calls Tryd.prog 35 #[.string s] w (Ret (.tuple #[.int .i64 (opN s.data.toList), .int .i64 (opX s.data.toList)]) w) := by
  have hcells : ∀ j : Nat, j < 12 → (w.alloc (.cells #[.string ⟨#[43]⟩, .string ⟨#[45]⟩, .string ⟨#[42]⟩, .string ⟨#[47]⟩, .string ⟨#[37]⟩, .string ⟨#[60]⟩, .string ⟨#[61]⟩, .string ⟨#[109, 105, 110]⟩, .string ⟨#[109, 97, 120]⟩, .string ⟨#[38]⟩, .string ⟨#[124]⟩, .string ⟨#[94]⟩] 9)).cell? ⟨w.heap.size, j, none⟩ = some (.string ⟨(nameL (j : Nat)).toArray⟩) := by
    intro j hj
    have : j = 0 ∨ j = 1 ∨ j = 2 ∨ j = 3 ∨ j = 4 ∨ j = 5 ∨ j = 6 ∨ j = 7 ∨ j = 8 ∨ j = 9 ∨ j = 10 ∨ j = 11 := by omega
    rcases this with e | e | e | e | e | e | e | e | e | e | e | e <;> subst e <;> go_simp <;> rfl
  have HW := Lib.hid (where_any s w.heap.size _ hcells)
  clear hcells
  have hB : Below w.heap.size w (w.alloc (.cells #[.string ⟨#[43]⟩, .string ⟨#[45]⟩, .string ⟨#[42]⟩, .string ⟨#[47]⟩, .string ⟨#[37]⟩, .string ⟨#[60]⟩, .string ⟨#[61]⟩, .string ⟨#[109, 105, 110]⟩, .string ⟨#[109, 97, 120]⟩, .string ⟨#[38]⟩, .string ⟨#[124]⟩, .string ⟨#[94]⟩] 9)) := (Below.refl _ _).alloc (Nat.le_refl _) _
  have HB := Lib.hid hB; clear hB
  cases ho : opOf s.data.toList with
  | none =>
    have HN : Hid (opN s.data.toList = 0) := Lib.hid (by simp [opN, ho])
    have HX : Hid (opX s.data.toList = 4) := Lib.hid (by simp [opX, ho])
    have HV : Hid (whN s.data.toList = -1) := Lib.hid (by simp [whN, ho])
    rw [HV.out] at HW
    clear ho
    go_enter Tryd.func35, Tryd.ntmps35
    go_wp2_with fail
    refine (names_any _).mono ?_
    rintro e w1 ⟨rfl, rfl⟩
    go_wp2_with fail
    refine HW.out.mono ?_
    rintro e w1 ⟨rfl, rfl⟩
    go_wp2
    go_ret2
    exact ⟨by rw [HN.out, HX.out] <;> rfl, HB.out⟩
  | some k =>
    have HN : Hid (opN s.data.toList = (k : Int)) := Lib.hid (by simp [opN, ho])
    have HX : Hid (opX s.data.toList = 0) := Lib.hid (by simp [opX, ho])
    have HV : Hid (whN s.data.toList = (k : Int)) := Lib.hid (by simp [whN, ho])
    rw [HV.out] at HW
    clear ho
    have hk0 : ((k : Int) < 0) = False := by simp <;> omega
    go_enter Tryd.func35, Tryd.ntmps35
    go_wp2_with fail
    refine (names_any _).mono ?_
    rintro e w1 ⟨rfl, rfl⟩
    go_wp2_with fail
    refine HW.out.mono ?_
    rintro e w1 ⟨rfl, rfl⟩
    go_wp2
    go_ret2
    exact ⟨by rw [HN.out, HX.out] <;> rfl, HB.out⟩
end Go.Proofs.YthbgingclpponaaDoor
