/- Walks of prim: what is done at each place. -/
import Derived.Test.YtecpanppnljkhaaDoorCd
import Derived.Test.YtecpanppnljkhaaDoorQa
import Derived.Deep.QuietTactic
import Derived.BigQuiet
namespace Go.Proofs.YtecpanppnljkhaaDoor
set_option linter.unusedVariables false
open Go.RowKit

theorem fillc_any (g : Nat) (k n : Int) (W : World) (hc : W.cell? ⟨g, 0, none⟩ = some (.int .i64 n)) :
    Calls Tryd.prog 87 #[.int .i64 k, .pointer (some ⟨g, 0, none⟩)] W (Ret (.tuple #[.int .i64 n, .int .i64 0]) W) := by
  go_enter Tryd.func87, Tryd.ntmps87
  go_wp2
  go_ret2
  exact ⟨rfl, Below.refl _ _⟩
theorem pickc_any (g1 g2 g3 : Nat) (A1 A2 A3 : Option Addr) (c1 c2 c3 : Nat) (f a b : List Int) (k : Nat) (W : World) (hk : k < f.length) (ha : a.length = f.length) (hb : b.length = f.length)
    (h1 : W.cell? ⟨g1, 0, none⟩ = some (.slice A1 f.length c1)) (h2 : W.cell? ⟨g2, 0, none⟩ = some (.slice A2 a.length c2)) (h3 : W.cell? ⟨g3, 0, none⟩ = some (.slice A3 b.length c3))
    (s1 : Sl W A1 f) (s2 : Sl W A2 a) (s3 : Sl W A3 b) (hl : f.length ≤ 1048576) :
    Calls Tryd.prog 80 #[.int .i64 k, .pointer (some ⟨g1, 0, none⟩), .pointer (some ⟨g2, 0, none⟩), .pointer (some ⟨g3, 0, none⟩)] W (Ret (.tuple #[.int .i64 (if nth f k ≠ 0 then nth a k else nth b k), .int .i64 0]) W) := by
  obtain ⟨b1, o1, rfl, _, d1⟩ := s1.at_ hk
  obtain ⟨b2, o2, rfl, _, d2⟩ := s2.at_ (show k < a.length by omega)
  obtain ⟨b3, o3, rfl, _, d3⟩ := s3.at_ (show k < b.length by omega)
  have k1 : (0 : Int) ≤ (k : Int) := by omega
  have k2 : (k : Int) < (f.length : Int) := by omega
  have k3 : (k : Int) < (a.length : Int) := by omega
  have k4 : (k : Int) < (b.length : Int) := by omega
  clear ha hb s1 s2 s3
  obtain ⟨x, hx⟩ : ∃ x, nth f k = x := ⟨_, rfl⟩
  rw [hx] at d1 ⊢
  clear hx
  by_cases h0 : x = 0
  · have hd : (x != 0) = false := by simpa using h0
    rw [if_neg (by simpa using h0)]
    clear h0
    go_enter Tryd.func80, Tryd.ntmps80
    go_wp2
    go_ret2
    exact ⟨rfl, Below.refl _ _⟩
  · have hd : (x != 0) = true := by rw [bne_iff_ne]; exact h0
    rw [if_pos h0]
    clear h0
    go_enter Tryd.func80, Tryd.ntmps80
    go_wp2
    go_ret2
    exact ⟨rfl, Below.refl _ _⟩
theorem gatherc_any (g1 g2 : Nat) (A1 A2 : Option Addr) (c1 c2 : Nat) (p a : List Int) (k : Nat) (W : World) (hk : k < p.length)
    (h1 : W.cell? ⟨g1, 0, none⟩ = some (.slice A1 p.length c1)) (h2 : W.cell? ⟨g2, 0, none⟩ = some (.slice A2 a.length c2))
    (s1 : Sl W A1 p) (s2 : Sl W A2 a) (hl : p.length ≤ 1048576) (hl2 : a.length ≤ 1048576) :
    Calls Tryd.prog 84 #[.int .i64 k, .pointer (some ⟨g1, 0, none⟩), .pointer (some ⟨g2, 0, none⟩)] W (Ret (.tuple #[.int .i64 (if plB (nth p k) a.length = true then nth a (nth p k).toNat else 0), .int .i64 (if plB (nth p k) a.length = true then 0 else 14)]) W) := by
  obtain ⟨b1, o1, rfl, _, d1⟩ := s1.at_ hk
  have k1 : (0 : Int) ≤ (k : Int) := by omega
  have k2 : (k : Int) < (p.length : Int) := by omega
  obtain ⟨x, hx⟩ : ∃ x, nth p k = x := ⟨_, rfl⟩
  rw [hx] at d1 ⊢
  clear hx
  have C := isPlace_any x A2 a.length c2 W (by omega)
  cases hb : plB x a.length with
  | false =>
    rw [hb] at C
    have C := Lib.hid C
    rw [if_neg (by simp), if_neg (by simp)]
    clear hb
    go_enter Tryd.func84, Tryd.ntmps84
    go_wp2_with (go_at_call 36; refine C.out.mono ?_; rintro e w' ⟨rfl, rfl⟩)
    go_ret2
    exact ⟨rfl, Below.refl _ _⟩
  | true =>
    rw [hb] at C
    have C := Lib.hid C
    rw [if_pos rfl, if_pos rfl]
    have hx : 0 ≤ x ∧ x < a.length := by unfold plB at hb; simpa using hb
    obtain ⟨j, rfl⟩ : ∃ j : Nat, x = j := ⟨x.toNat, by omega⟩
    obtain ⟨b2, o2, rfl, _, d2⟩ := s2.at_ (show j < a.length by omega)
    have k3 : (0 : Int) ≤ (j : Int) := by omega
    have k4 : (j : Int) < (a.length : Int) := by omega
    clear hb hx
    rw [show ((j : Nat) : Int).toNat = j by simp]
    go_enter Tryd.func84, Tryd.ntmps84
    go_wp2_with (go_at_call 36; refine C.out.mono ?_; rintro e w' ⟨rfl, rfl⟩)
    go_ret2
    exact ⟨rfl, Below.refl _ _⟩

theorem keep5 {w W W' : World} {p1 p2 p3 p4 p5 : Addr} {v1 v2 v3 v4 v5 : Value} (h1 : p1.block < w.heap.size) (h2 : p2.block < w.heap.size) (h3 : p3.block < w.heap.size) (h4 : p4.block < w.heap.size) (h5 : p5.block < w.heap.size)
    (h : W.cell? p1 = some v1 ∧ W.cell? p2 = some v2 ∧ W.cell? p3 = some v3 ∧ W.cell? p4 = some v4 ∧ W.cell? p5 = some v5 ∧ Below w.heap.size w W) (hb : Below W.heap.size W W') :
    W'.cell? p1 = some v1 ∧ W'.cell? p2 = some v2 ∧ W'.cell? p3 = some v3 ∧ W'.cell? p4 = some v4 ∧ W'.cell? p5 = some v5 ∧ Below w.heap.size w W' := by
  obtain ⟨a1, a2, a3, a4, a5, a6⟩ := h
  have hs := a6.size
  exact ⟨(hb.cell (by omega)).trans a1, (hb.cell (by omega)).trans a2, (hb.cell (by omega)).trans a3, (hb.cell (by omega)).trans a4, (hb.cell (by omega)).trans a5, below_step a6 hb⟩
set_option maxRecDepth 100000 in
set_option maxHeartbeats 2000000 in
theorem binc_any (g1 g2 g3 : Nat) (op : Int) (A2 A3 : Option Addr) (c2 c3 : Nat) (a b : List Int) (k : Nat) (W : World) (hk : k < a.length) (hb : b.length = a.length)
    (i1 : g1 < W.heap.size) (i2 : g2 < W.heap.size) (i3 : g3 < W.heap.size)
    (h1 : W.cell? ⟨g1, 0, none⟩ = some (.int .i64 op)) (h2 : W.cell? ⟨g2, 0, none⟩ = some (.slice A2 a.length c2)) (h3 : W.cell? ⟨g3, 0, none⟩ = some (.slice A3 b.length c3))
    (s2 : Sl W A2 a) (s3 : Sl W A3 b) (hl : a.length ≤ 1048576) :
    Calls Tryd.prog 78 #[.int .i64 k, .pointer (some ⟨g1, 0, none⟩), .pointer (some ⟨g2, 0, none⟩), .pointer (some ⟨g3, 0, none⟩)] W (Ret (.tuple #[.int .i64 (doN op (nth a k) (nth b k)), .int .i64 (doE op (nth a k) (nth b k))]) W) := by
  obtain ⟨b2, o2, rfl, j2, d2⟩ := s2.at_ hk
  obtain ⟨b3, o3, rfl, j3, d3⟩ := s3.at_ (show k < b.length by omega)
  have k1 : (0 : Int) ≤ (k : Int) := by omega
  have k3 : (k : Int) < (a.length : Int) := by omega
  have k4 : (k : Int) < (b.length : Int) := by omega
  clear hb s2 s3
  obtain ⟨x, hx⟩ : ∃ x, nth a k = x := ⟨_, rfl⟩
  obtain ⟨y, hy⟩ : ∃ y, nth b k = y := ⟨_, rfl⟩
  rw [hx] at d2 ⊢
  rw [hy] at d3 ⊢
  clear hx hy
  have HD := Lib.hid (fun w => do_any op x y w)
  obtain ⟨n, hn⟩ : ∃ n, doN op x y = n := ⟨_, rfl⟩
  obtain ⟨r, hr⟩ : ∃ r, doE op x y = r := ⟨_, rfl⟩
  rw [hn, hr] at HD
  rw [hn, hr]
  clear hn hr
  go_enter Tryd.func78, Tryd.ntmps78
  go_wp2
  refine wp_region_tab (fun w => w.cell? ⟨g1, 0, none⟩ = some (.int .i64 op) ∧ w.cell? ⟨g2, 0, none⟩ = some (.slice (some ⟨b2, o2, none⟩) a.length c2) ∧ w.cell? ⟨g3, 0, none⟩ = some (.slice (some ⟨b3, o3, none⟩) b.length c3) ∧ w.cell? ⟨b2, o2 + k, none⟩ = some (.int .i64 x) ∧ w.cell? ⟨b3, o3 + k, none⟩ = some (.int .i64 y) ∧ Below W.heap.size W w) 12 (by kernel_rfl) (by kernel_rfl) (keep5 i1 i2 i3 j2 j3 ⟨h1, h2, h3, d2, d3, Below.refl _ _⟩ (Below.drew (Below.refl _ _))) ?_
  simp only [List.take_succ_cons, List.take_zero, List.drop_succ_cons, List.drop_zero]
  iterate 9 ((refine wpTab_value (v := ?_) (fun W hW => ?_) ?_; rotate_left; · (obtain ⟨q1, q2, q3, q4, q5, q6⟩ := hW; go_simp; try with_reducible rfl)); simp only [Act.put, List.setIfInBounds_toArray, List.set_cons_zero, List.set_cons_succ])
  refine wpTab_call (f := ?_) (args := ?_) (v := .tuple #[.int .i64 n, .int .i64 r]) (fun W => ?_) (fun W hW => ?_) ?_
  rotate_left 2
  · go_simp; refine ⟨?_, ?_⟩ <;> rfl
  · refine (HD.out W).mono ?_; rintro e y ⟨rfl, hb⟩; exact ⟨rfl, keep5 i1 i2 i3 j2 j3 hW hb⟩
  simp only [Act.put, List.setIfInBounds_toArray, List.set_cons_zero, List.set_cons_succ]
  iterate 2 ((refine wpTab_value (v := ?_) (fun W hW => ?_) ?_; rotate_left; · (obtain ⟨q1, q2, q3, q4, q5, q6⟩ := hW; go_simp; try with_reducible rfl)); simp only [Act.put, List.setIfInBounds_toArray, List.set_cons_zero, List.set_cons_succ])
  refine wpTab_nil (fun wz hz => ?_)
  obtain ⟨_, _, _, _, _, hBz⟩ := hz
  go_wp2
  go_ret2
  exact ⟨rfl, hBz⟩
theorem keep3 {w W W' : World} {p1 p2 p3 : Addr} {v1 v2 v3 : Value} (h1 : p1.block < w.heap.size) (h2 : p2.block < w.heap.size) (h3 : p3.block < w.heap.size)
    (h : W.cell? p1 = some v1 ∧ W.cell? p2 = some v2 ∧ W.cell? p3 = some v3 ∧ Below w.heap.size w W) (hb : Below W.heap.size W W') :
    W'.cell? p1 = some v1 ∧ W'.cell? p2 = some v2 ∧ W'.cell? p3 = some v3 ∧ Below w.heap.size w W' := by
  obtain ⟨a1, a2, a3, a6⟩ := h
  have hs := a6.size
  exact ⟨(hb.cell (by omega)).trans a1, (hb.cell (by omega)).trans a2, (hb.cell (by omega)).trans a3, below_step a6 hb⟩
theorem do_add (x m : Int) (hx : isW x) (h0 : 0 ≤ m) (hm : m ≤ 1048576) : doN 0 x m = wrap32 (x + m) ∧ doE 0 x m = 0 := by
  have h1 : isWb x = true := isWb_of _ hx
  have h2 : isWb m = true := isWb_of _ (by unfold isW; omega)
  have h3 : trapsb 0 m = false := by rw [← Bool.not_eq_true, trapsb_iff]; omega
  have h4 : isOpb 0 = true := by decide
  simp [doN, doE, h1, h2, h3, h4, V0]
set_option maxRecDepth 100000 in
set_option maxHeartbeats 2000000 in
theorem offc_any (g1 g2 : Nat) (A1 A2 : Option Addr) (c1 c2 m : Nat) (a : List Int) (k : Nat) (W : World) (hk : k < a.length) (hm : m ≤ 1048576) (hx0 : isW (nth a k))
    (i1 : g1 < W.heap.size) (i2 : g2 < W.heap.size)
    (h1 : W.cell? ⟨g1, 0, none⟩ = some (.slice A1 a.length c1)) (h2 : W.cell? ⟨g2, 0, none⟩ = some (.slice A2 m c2))
    (s1 : Sl W A1 a) (hl : a.length ≤ 1048576) :
    Calls Tryd.prog 86 #[.int .i64 k, .pointer (some ⟨g1, 0, none⟩), .pointer (some ⟨g2, 0, none⟩)] W (Ret (.tuple #[.int .i64 (wrap32 (nth a k + m)), .int .i64 0]) W) := by
  obtain ⟨b1, o1, rfl, j1, d1⟩ := s1.at_ hk
  have k1 : (0 : Int) ≤ (k : Int) := by omega
  have k3 : (k : Int) < (a.length : Int) := by omega
  clear s1
  obtain ⟨x, hx⟩ : ∃ x, nth a k = x := ⟨_, rfl⟩
  rw [hx] at d1 hx0 ⊢
  clear hx
  have HD := Lib.hid (fun w => do_any 0 x (m : Int) w)
  rw [(do_add x m hx0 (by omega) (by omega)).1, (do_add x m hx0 (by omega) (by omega)).2] at HD
  obtain ⟨n, hn⟩ : ∃ n, wrap32 (x + m) = n := ⟨_, rfl⟩
  rw [hn] at HD
  rw [hn]
  clear hn hx0
  go_enter Tryd.func86, Tryd.ntmps86
  go_wp2
  refine wp_region_tab (fun w => w.cell? ⟨g1, 0, none⟩ = some (.slice (some ⟨b1, o1, none⟩) a.length c1) ∧ w.cell? ⟨g2, 0, none⟩ = some (.slice A2 m c2) ∧ w.cell? ⟨b1, o1 + k, none⟩ = some (.int .i64 x) ∧ Below W.heap.size W w) 9 (by kernel_rfl) (by kernel_rfl) (keep3 i1 i2 j1 ⟨h1, h2, d1, Below.refl _ _⟩ (Below.drew (Below.refl _ _))) ?_
  simp only [List.take_succ_cons, List.take_zero, List.drop_succ_cons, List.drop_zero]
  iterate 6 ((refine wpTab_value (v := ?_) (fun W hW => ?_) ?_; rotate_left; · (obtain ⟨q1, q2, q3, q4⟩ := hW; go_simp; try with_reducible rfl)); simp only [Act.put, List.setIfInBounds_toArray, List.set_cons_zero, List.set_cons_succ])
  refine wpTab_call (f := ?_) (args := ?_) (v := .tuple #[.int .i64 n, .int .i64 0]) (fun W => ?_) (fun W hW => ?_) ?_
  rotate_left 2
  · go_simp; refine ⟨?_, ?_⟩ <;> rfl
  · refine (HD.out W).mono ?_; rintro e y ⟨rfl, hb⟩; exact ⟨rfl, keep3 i1 i2 j1 hW hb⟩
  simp only [Act.put, List.setIfInBounds_toArray, List.set_cons_zero, List.set_cons_succ]
  iterate 2 ((refine wpTab_value (v := ?_) (fun W hW => ?_) ?_; rotate_left; · (obtain ⟨q1, q2, q3, q4⟩ := hW; go_simp; try with_reducible rfl)); simp only [Act.put, List.setIfInBounds_toArray, List.set_cons_zero, List.set_cons_succ])
  refine wpTab_nil (fun wz hz => ?_)
  obtain ⟨_, _, _, hBz⟩ := hz
  go_wp2
  go_ret2
  exact ⟨rfl, hBz⟩
end Go.Proofs.YtecpanppnljkhaaDoor
