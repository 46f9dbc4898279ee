/- same: are two lists of spans the same? -/
import Derived.Test.YtcbkocjpkdcpfaaMd
import Derived.BigQuiet
namespace Go.Proofs.Ytcbkocjpkdcpfaa
set_option linter.unusedVariables false
open Go.RowKit Go.Shelf

theorem eq_of_pth {ps qs : List (Int × Int)} (hl : ps.length = qs.length) (h : ∀ j, j < ps.length → pth ps j = pth qs j) : ps = qs := by
  apply List.ext_getElem hl
  intro i h1 h2
  rw [← pth_eq ps i h1, ← pth_eq qs i h2]
  exact h i h1
theorem SlP.at_ {w : World} {A : Option Addr} {ps : List (Int × Int)} (h : SlP w A ps) {k : Nat} (hk : k < ps.length) :
    ∃ b off, A = some ⟨b, off, none⟩ ∧ w.cell? ⟨b, off + k * 2, none⟩ = some (.int .i64 (pth ps k).1) ∧ w.cell? ⟨b, off + k * 2 + 1, none⟩ = some (.int .i64 (pth ps k).2) := by
  obtain ⟨b, off, e, hb, hc⟩ := h (by omega)
  exact ⟨b, off, e, (hc k hk).1, (hc k hk).2⟩
set_option maxRecDepth 100000 in
set_option maxHeartbeats 2000000 in
theorem same_any (A A' : Option Addr) (c c' : Nat) (ps qs : List (Int × Int)) (w : World) (h : SlP w A ps) (h' : SlP w A' qs) (hl : ps.length ≤ 1048576) (hl' : qs.length ≤ 1048576) :
    Calls Try.prog 32 #[.slice A ps.length c, .slice A' qs.length c'] w (Drew w (.bool (decide (ps = qs)))) := by
  by_cases hlen : ps.length = qs.length
  · have hd : ((ps.length : Int) == (qs.length : Int)) = true := by rw [beq_iff_eq]; omega
    have HLEN := Lib.hid hlen
    rw [← hlen] at hd ⊢
    clear hlen
    go_enter Try.func32, Try.ntmps32
    go_wp2
    go_loopw [5, 6] (fun l i wr => ∃ k q : Nat, k ≤ ps.length ∧ i = .int .i64 k ∧ wr = w.drewN q ∧ ((l = .bool true ∧ Hid (∀ j, j < k → pth ps j = pth qs j)) ∨ (l = .bool false ∧ Hid (ps ≠ qs)))) (fun _ i _ => ps.length - (intOf i).toNat)
    case atStart => exact ⟨0, 0, Nat.zero_le _, rfl, rfl, .inl ⟨rfl, Lib.hid (fun j hj => by omega)⟩⟩
    case round =>
      obtain ⟨k, q, hk, rfl, rfl, (⟨rfl, Hj⟩ | ⟨rfl, Hne⟩)⟩ := hrel
      · by_cases hlt : k < ps.length
        · obtain ⟨b, off, rfl, e1, e2⟩ := h.at_ hlt
          obtain ⟨b', off', rfl, e3, e4⟩ := h'.at_ (k := k) (by rw [← HLEN.out]; exact hlt)
          obtain ⟨W, HW⟩ : ∃ W, Hid (w.drewN q = W) := ⟨_, Lib.hid rfl⟩
          obtain ⟨⟨x1, x2⟩, Hx⟩ : ∃ x, Hid (pth ps k = x) := ⟨_, Lib.hid rfl⟩
          obtain ⟨⟨y1, y2⟩, Hy⟩ : ∃ x, Hid (pth qs k = x) := ⟨_, Lib.hid rfl⟩
          rw [Hx.out] at e1 e2
          rw [Hy.out] at e3 e4
          have c1 : W.cell? ⟨b, off + k * 2, none⟩ = some (.int .i64 x1) := by rw [← HW.out]; exact e1
          have c2 : W.cell? ⟨b, off + k * 2 + 1, none⟩ = some (.int .i64 x2) := by rw [← HW.out]; exact e2
          have c3 : W.cell? ⟨b', off' + k * 2, none⟩ = some (.int .i64 y1) := by rw [← HW.out]; exact e3
          have c4 : W.cell? ⟨b', off' + k * 2 + 1, none⟩ = some (.int .i64 y2) := by rw [← HW.out]; exact e4
          rw [HW.out]
          have hk1 : (0 : Int) ≤ (k : Int) := by omega
          have hk2 : (k : Int) < (ps.length : Int) := by omega
          clear e1 e2 e3 e4
          by_cases hxy : x1 = y1
          · subst hxy
            by_cases hxy2 : x2 = y2
            · subst hxy2
              go_wp2
              go_quiet (fail)
              go_wp2
              go_roundw
              case rel => exact ⟨k + 1, _, by omega, by go_num, by rw [← HW.out]; exact World.drewN_drewN _ _ _, .inl ⟨rfl, Lib.hid (fun j hj => by
                by_cases e : j = k
                · subst e; rw [Hx.out, Hy.out]
                · exact Hj.out j (by omega))⟩⟩
              case measure => simp [intOf]; omega
            · have HN : Hid (ps ≠ qs) := Lib.hid (fun e => hxy2 (by have := Hx.out; rw [e, Hy.out] at this; exact (congrArg Prod.snd this).symm))
              go_wp2
              go_quiet (fail)
              go_wp2
              go_roundw
              case rel => exact ⟨k + 1, _, by omega, by go_num, by rw [← HW.out]; exact World.drewN_drewN _ _ _, .inr ⟨rfl, HN⟩⟩
              case measure => simp [intOf]; omega
          · have HN : Hid (ps ≠ qs) := Lib.hid (fun e => hxy (by have := Hx.out; rw [e, Hy.out] at this; exact (congrArg Prod.fst this).symm))
            go_wp2
            go_quiet (fail)
            go_wp2
            go_roundw
            case rel => exact ⟨k + 1, _, by omega, by go_num, by rw [← HW.out]; exact World.drewN_drewN _ _ _, .inr ⟨rfl, HN⟩⟩
            case measure => simp [intOf]; omega
        · obtain rfl : k = ps.length := by omega
          have HE : Hid (decide (ps = qs) = true) := Lib.hid (decide_eq_true (eq_of_pth HLEN.out Hj.out))
          go_wp2
          go_ret
          rw [HE.out]; exact ⟨rfl, q, rfl⟩
      · have HE : Hid (decide (ps = qs) = false) := Lib.hid (decide_eq_false Hne.out)
        go_wp2
        go_ret
        rw [HE.out]; exact ⟨rfl, q, rfl⟩
  · have hd : ((ps.length : Int) == (qs.length : Int)) = false := by rw [beq_eq_false_iff_ne]; omega
    have HE : Hid (decide (ps = qs) = false) := Lib.hid (decide_eq_false (fun e => hlen (by rw [e])))
    clear hlen
    go_enter Try.func32, Try.ntmps32
    go_wp2
    go_loopw [5, 6] (fun l i wr => l = .bool false ∧ i = .int .i64 0 ∧ wr = w) (fun _ _ _ => 0)
    case atStart => exact ⟨rfl, rfl, rfl⟩
    case round =>
      obtain ⟨rfl, rfl, rfl⟩ := hrel
      go_wp2
      go_ret
      rw [HE.out]; exact ⟨rfl, 0, rfl⟩
end Go.Proofs.Ytcbkocjpkdcpfaa
