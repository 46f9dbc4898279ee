/- Touched and Compact, whole. -/
import Derived.Test.YtcbkocjpkdcpfaaTk
import Derived.Test.YtcbkocjpkdcpfaaTp
namespace Go.Proofs.Ytcbkocjpkdcpfaa
set_option linter.unusedVariables false
open Go.RowKit Go.Shelf
set_option maxRecDepth 100000 in
set_option maxHeartbeats 4000000 in
theorem touched_c : TouchedC := by
  intro A A' c c' ss ls n w h h' hls hll hb
  by_cases he : shE ss ls n = 0
  · obtain ⟨N, rfl, hP, _⟩ := Pool.of he
    rw [if_pos he, he, Int.toNat_natCast]
    exact touched_ok A A' c c' N ss ls w h h' hP he hb
  · rw [if_neg he]
    have C1 := shared_any A A' c c' ss ls n w h h' hls hll hb
    have hd : (shE ss ls n != 0) = true := by rw [bne_iff_ne]; exact he
    clear he hb
    go_enter Try.func30, Try.ntmps30
    go_wp2_with (go_at_call 27; refine C1.mono ?_; rintro e w1 ⟨rfl, hB1⟩)
    go_ret2
    exact ⟨none, 0, rfl, Nat.le_refl _, fun h => absurd h (by simp), hB1⟩
theorem touched_any (A A' : Option Addr) (c c' : Nat) (ss ls : List Int) (n : Int) (w : World) (h : Sl w A ss) (h' : Sl w A' ls) (hls : ss.length ≤ 9223372036854775807) (hll : ls.length ≤ 9223372036854775807) (hb : ∀ j, j < ls.length → nth ls j ≤ 9223372036854775807) :
    Calls Try.prog 30 #[.slice A ss.length c, .slice A' ls.length c', .int .i64 n] w (RetPE w (if shE ss ls n = 0 then tsL ss ls n.toNat else []) (shE ss ls n)) := touched_c A A' c c' ss ls n w h h' hls hll hb
end Go.Proofs.Ytcbkocjpkdcpfaa
