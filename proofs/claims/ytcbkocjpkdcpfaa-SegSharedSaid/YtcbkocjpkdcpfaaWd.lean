/- Walks, part d: where segments begin (the specification's side). -/
import Derived.Test.YtcbkocjpkdcpfaaWc
import Derived.Maps.AppendAt
namespace Go.Proofs.Ytcbkocjpkdcpfaa
set_option linter.unusedVariables false
open Go.RowKit

theorem int_info : (Try.prog.info? 3).map (fun i => (i.zero, i.size, i.bytes)) = some (some (.int .i64 0), 1, 8) := by kernel_rfl

def BeginRel (w : World) (zs : List Int) (v t i : Value) (wr : World) : Prop :=
  ∃ k : Nat, k ≤ zs.length ∧ i = .int .i64 k ∧ t = .int .i64 (psum zs k) ∧ OwnI wr w.heap.size v (stK zs k) ∧ Below w.heap.size w wr ∧ w.heap.size ≤ wr.heap.size
set_option maxRecDepth 100000 in
set_option maxHeartbeats 1000000 in
theorem begin_own (A : Option Addr) (c : Nat) (zs : List Int) (w : World) (h : Sl w A zs) (hl : zs.length ≤ 1048576) (hp : PosTo zs zs.length) (hs : zs.sum ≤ 1048576) :
    Calls Try.prog 49 #[.slice A zs.length c] w (fun e w' => ∃ v, e = .returned v ∧ OwnI w' w.heap.size v (stL zs) ∧ Below w.heap.size w w') := by
  obtain ⟨i0, hi, hz0, hz1, hz2⟩ := info_parts int_info
  have HS := Lib.hid (psum_all zs)
  go_enter Try.func49, Try.ntmps49
  go_wp2
  go_loopw [3, 4, 5] (fun v t i wr => BeginRel w zs v t i wr) (fun _ _ i _ => zs.length - (intOf i).toNat)
  case atStart => exact ⟨0, Nat.zero_le _, rfl, by rw [psum_zero], OwnI.empty w _ (Nat.le_refl _), (Below.refl _ _).alloc (Nat.le_refl _) _, by simp⟩
  case round =>
    obtain ⟨k, hk, rfl, rfl, hown, hB, hsz⟩ := hrel
    by_cases hlt : k < zs.length
    · obtain ⟨bl, off, rfl, hbl, hc⟩ := h.at_ hlt
      have h0 := psum_nonneg zs k hk (hp.le hk)
      have h1 := psum_mono zs zs.length (Nat.le_refl _) hp (k + 1) zs.length (by omega) (Nat.le_refl _)
      rw [HS.out, psum_succ zs k hlt] at h1
      have h2 := hp k hlt
      have hs' := Lib.hid (psum_succ zs k hlt)
      have HK := Lib.hid (stK_succ zs k)
      have HL := Lib.hid (stK_length zs k)
      go_wp2_with (at_builtin; refine wpList_append_own _ rfl _ _ 22 rfl w.heap.size 3 i0 (.int .i64 0) 1 8 Try.underlying22 hi hz0 hz1 hz2 rfl (by decide) _ _ _ rfl (hown.alloc _) ⟨wr.heap.size, 0, none⟩ 1 1 [.int .i64 (psum zs k)] rfl rfl (cell_one_new _ _ _) (by simp [Value.oneCell']) (by rw [HL.out]; unfold maxLen; omega) (by rw [HL.out]; omega) (by simp; omega) ?_; intro v' w1 hown' hgrow _; have hB1 := below_append hB hsz hown hgrow; have hc1 := (hB1.cell (p := ⟨bl, off + k, none⟩) hbl).trans hc)
      have hown1 : OwnI w1 w.heap.size v' (stK zs (k + 1)) := by rw [HK.out]; exact OwnI.snoc hown'
      clear hown' hgrow hown
      have hsz1 : w.heap.size ≤ w1.heap.size := hB1.size
      go_roundw
      case rel => exact ⟨k + 1, by omega, by go_num, by rw [hs'.out], hown1, hB1, hsz1⟩
      case measure => simp [intOf]; omega
    · obtain rfl : k = zs.length := by omega
      go_wp2
      go_ret
      exact ⟨_, rfl, hown, hB⟩
theorem begin_any (A : Option Addr) (c : Nat) (zs : List Int) (w : World) (h : Sl w A zs) (hl : zs.length ≤ 1048576) (hp : PosTo zs zs.length) (hs : zs.sum ≤ 1048576) :
    Calls Try.prog 49 #[.slice A zs.length c] w (RetS w (stL zs)) := (begin_own A c zs w h hl hp hs).mono fun e w' ⟨v, he, ho, hB⟩ => by
  obtain ⟨A', c', e', hcc, hsl⟩ := ho.form
  exact ⟨A', c', by rw [he, e'], hcc, hsl, hB⟩
end Go.Proofs.Ytcbkocjpkdcpfaa
