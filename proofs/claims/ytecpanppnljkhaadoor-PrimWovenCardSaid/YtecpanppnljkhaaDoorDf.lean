/- Merge: its mathematics; slices of what came in; an add that fits; what comes next of set flags. -/
import Derived.Test.YtecpanppnljkhaaDoorDe
namespace Go.Proofs.YtecpanppnljkhaaDoor
set_option linter.unusedVariables false
open Go.RowKit Go.Shelf

attribute [local go_sem] Oper.semAt_some
theorem cnt_back {f : List Int} {q x : Nat} (hc : cnt f q = cnt f x) (h0 : q = 0 ∨ nth f (q - 1) ≠ 0) : q ≤ x := by
  rcases Nat.lt_or_ge x q with h | h
  · rcases h0 with rfl | h0
    · omega
    · obtain ⟨p, rfl⟩ : ∃ p, q = p + 1 := ⟨q - 1, by omega⟩
      simp only [Nat.add_sub_cancel] at h0
      have h1 := (cnt_mono f (show x ≤ p by omega)).1
      simp [cnt, h0] at hc
      omega
  · exact h
theorem mer_next {f a b : List Int} {q : Nat} (x : Nat) (hqx : q ≤ x) (hc : cnt f q = cnt f x) (hb : x - cnt f x ≤ b.length) : merK f a b x = merK f a b q ++ (b.drop (q - cnt f q)).take (x - q) := by
  induction x with
  | zero => obtain rfl : q = 0 := by omega
            simp
  | succ k ih =>
    by_cases e : q = k + 1
    · subst e; simp
    · have h1 := cnt_mono f (show q ≤ k by omega)
      have h2 := cnt_le f q
      have h3 := cnt_mono f (show k ≤ k + 1 by omega)
      have hk : cnt f k = cnt f q := by omega
      have hu : nth f k = 0 := by
        apply Classical.byContradiction
        intro hne
        have : cnt f (k + 1) = cnt f k + 1 := by simp [cnt, hne]
        omega
      have := ih (by omega) (by omega) (by omega)
      simp only [merK, hu, ne_eq, not_true_eq_false, if_false]
      rw [this, List.append_assoc, show k + 1 - q = (k - q) + 1 by omega, take_snoc _ _ (by rw [List.length_drop]; omega), nth_drop, show q - cnt f q + (k - q) = k - cnt f k by omega]
theorem cnt_set {f : List Int} {x : Nat} (h : nth f x ≠ 0) : cnt f (x + 1) = cnt f x + 1 := by simp [cnt, h]
theorem mer_set {f a b : List Int} {x : Nat} (h : nth f x ≠ 0) : merK f a b (x + 1) = merK f a b x ++ [nth a (cnt f x)] := by simp [merK, h]
theorem mer_ls {f a b : List Int} (h : lsE [f, a, b] ≠ 0) : merE f a b = lsE [f, a, b] := by unfold merE; rw [if_neg h]
theorem mer_ok {f a b : List Int} (h : lsE [f, a, b] = 0) (h1 : f.length = a.length + b.length) (h2 : a.length = cnt f f.length) : merE f a b = 0 := by
  unfold merE; rw [if_pos h, if_pos ⟨h2, by omega⟩]
theorem mer_no {f a b : List Int} (h : lsE [f, a, b] = 0) (h1 : ¬ (f.length = a.length + b.length ∧ a.length = cnt f f.length)) : merE f a b = 6 := by
  have := cnt_le f f.length
  unfold merE; rw [if_pos h, if_neg (by omega)]

theorem slice_to (A : Option Addr) (c p : Nat) (ys : List Int) (w : World) (h : Sl w A ys) (hp : p ≤ ys.length) (hc : ys.length ≤ c) :
    ∃ B, (∀ W, (Instr.sliceAt 22 (.slice A ys.length c) none (some (.int .i64 (p : Int))) none).run Tryd.prog W = .ok (.slice B p c) W) ∧ Sl w B (ys.take p) := by
  obtain ⟨i0, hi, hz0, hz1, hz2⟩ := info_parts int_info
  have he : Tryd.prog.elem 22 = 3 := by kernel_rfl
  have hrun : ∀ W, (Instr.slice 22 (.slice A ys.length c) none (some (.int .i64 (p : Int))) none).run Tryd.prog W = .ok (sliced A 0 p c 1) W := fun W => by
    rw [run_slice_h W 22 A ys.length c (by rw [he]; exact Tryd.underlying22) .i64 (p : Int) (by omega) (by omega), he]
    simp [sizeOf, typeInfo, hi, hz1, Result.andThen]
  unfold sliced at hrun
  refine ⟨_, fun W => (run_sliceAt_slice W 22 _ _ _ _ (by kernel_rfl)).trans (hrun W), ?_⟩
  intro hl
  rw [List.length_take] at hl
  obtain ⟨b, off, rfl, hb, hcl⟩ := h (by omega)
  refine ⟨b, off, ?_, hb, fun j hj => ?_⟩
  · rw [if_neg (by omega)]; simp [Addr.add]
  · rw [List.length_take] at hj
    rw [nth_take ys p j (by omega)]
    exact hcl j (by omega)
theorem slice_from (A : Option Addr) (c lo : Nat) (ys : List Int) (w : World) (h : Sl w A ys) (hlo : lo ≤ ys.length) (hc : ys.length ≤ c) :
    ∃ B, (∀ W, (Instr.sliceAt 22 (.slice A ys.length c) (some (.int .i64 (lo : Int))) none none).run Tryd.prog W = .ok (.slice B (ys.length - lo) (c - lo)) W) ∧ Sl w B (ys.drop lo) := by
  obtain ⟨i0, hi, hz0, hz1, hz2⟩ := info_parts int_info
  have he : Tryd.prog.elem 22 = 3 := by kernel_rfl
  have hrun : ∀ W, (Instr.slice 22 (.slice A ys.length c) (some (.int .i64 (lo : Int))) none none).run Tryd.prog W = .ok (sliced A lo ys.length c 1) W := fun W => by
    rw [run_slice_l W 22 A ys.length c (by rw [he]; exact Tryd.underlying22) .i64 (lo : Int) (by omega) (by omega), he]
    simp [sizeOf, typeInfo, hi, hz1, Result.andThen]
  unfold sliced at hrun
  refine ⟨_, fun W => (run_sliceAt_slice W 22 _ _ _ _ (by kernel_rfl)).trans (hrun W), ?_⟩
  intro hl
  rw [List.length_drop] at hl
  obtain ⟨b, off, rfl, hb, hcl⟩ := h (by omega)
  refine ⟨b, off + lo, ?_, hb, fun j hj => ?_⟩
  · rw [if_neg (by omega)]
    simp only [Option.map_some, Nat.mul_one]
    unfold Addr.add
    by_cases h0 : lo = 0
    · subst h0; simp
    · simp [h0]
  · rw [List.length_drop] at hj
    rw [nth_drop, Nat.add_assoc]
    exact hcl (lo + j) (by omega)

set_option maxHeartbeats 1000000 in
theorem addFit_any (base g i r cap : Nat) (t : TypeId) (cs : Array Value) (zs : List Int) (x : Int) (w : World) (hv : Blk w g t cs) (hi0 : cs[i]? = some (.slice (some ⟨r, 0, none⟩) zs.length cap)) (ht : t ≠ 3)
    (hrow : OwnI w base (.slice (some ⟨r, 0, none⟩) zs.length cap) zs) (hb : base ≤ w.heap.size) (hfit : zs.length + 1 ≤ cap) :
    Calls Tryd.prog 34 #[.pointer (some ⟨g, i, none⟩), .int .i64 x] w (AddAll w base g i r cap t cs zs [x]) := by
  obtain ⟨i0, hi, hz0, hz1, hz2⟩ := info_parts int_info
  have c1 := hv.cell i
  rw [hi0] at c1
  have HI := Lib.hid hi0; clear hi0
  unfold AddAll
  rw [show [x].length = 1 from rfl]
  obtain ⟨n, hn⟩ : ∃ n, zs.length = n := ⟨_, rfl⟩
  have HN := Lib.hid hn
  have hrow' := Lib.hid hrow
  have hnr := hv.not_row ht hrow
  rw [hn] at c1 HI hfit hnr hrow' ⊢
  clear hn
  go_enter Tryd.func34, Tryd.ntmps34
  go_wp2_with (at_builtin; refine wpList_append_fits _ rfl _ _ 63 rfl base 3 i0 1 Tryd.underlying63 hi hz1 r n cap _ rfl (by have := hrow'.out; unfold OwnI at this; rw [HN.out] at this; exact World.ownsRow.alloc this _) ⟨w.heap.size, 0, none⟩ 1 1 [.int .i64 x] rfl rfl (cell_one_new _ _ _) (by simp [Value.oneCell']) hfit ?_; intro w1 hown' hgrow; have hown2 : OwnI w1 base (.slice (some ⟨r, 0, none⟩) (n + 1) cap) (zs ++ [x]) := (by unfold OwnI; simp only [List.length_append, List.length_singleton, HN.out, List.map_append, List.map_cons, List.map_nil]; exact hown'); have hA := added_of (i := i) hv ht hrow hb hown2 hgrow; have hv1 := (hv.alloc _).grown hgrow hnr; have c2 := hv1.cell i; rw [HI.out] at c2; have f2 := hv1.frozen i)
  go_end0
  rw [HN.out] at hA
  exact ⟨⟨_, rfl⟩, hA⟩

set_option maxRecDepth 100000 in
set_option maxHeartbeats 2000000 in
theorem set_nexts_in (F : Fence) (n : Nat) (h7 : F.fn 109) (hro : F.round = none) (hn : 1 ≤ n) (l Bs n₀ b off c : Nat) (zs : List Int) (hz : zs.length ≤ 1048576) (hb : b < n₀) (J : List (Fin zs.length) → World → Prop)
    (hY : ∀ pre x W, (pre = setF zs x.val ∧ nth zs x.val ≠ 0) → J pre W → YieldAt F (n - 1) Tryd.prog l (setV zs x) W fun e W' => e = .returned (.bool true) ∧ J (pre ++ [x]) W' ∧ Below n₀ W W')
    (W : World) (hBs : W.cell? ⟨Bs, 0, none⟩ = some (.slice (some ⟨b, off, none⟩) zs.length c)) (hc : ∀ j, j < zs.length → W.cell? ⟨b, off + j, none⟩ = some (.int .i64 (nth zs j))) (h0 : J [] W) :
    CallsIn F n Tryd.prog 109 #[.func (.yield l) #[] #[], .pointer (some ⟨Bs, 0, none⟩)] W fun e W' => (∃ v, e = .returned v) ∧ ∃ ys, ys = setF zs zs.length ∧ J ys W' := by
  refine callsIn_of_wp Tryd.func109 rfl h7 ?_ hro
  simp only [Tryd.ntmps109, List.size_toArray, List.length_cons, List.length_nil, Nat.reduceAdd, Nat.reduceSub, Array.replicate_succ, Array.replicate_zero, List.push_toArray, List.append_toArray, List.nil_append, List.cons_append]
  gi_wp2
  gi_loopw [7] (fun i wr => ∃ k : Nat, k ≤ zs.length ∧ i = .int .i64 k ∧ J (setF zs k) wr ∧ Below n₀ W wr)
    (fun i _ => zs.length - (intOf i).toNat)
  case atStart => exact ⟨0, Nat.zero_le _, rfl, by rw [setF_zero]; exact h0, Below.refl _ _⟩
  case round =>
    obtain ⟨k, hk, rfl, hJs, hnx⟩ := hrel
    by_cases hlt : k < zs.length
    · have hcx' := (hnx.cell (p := ⟨b, off + k, none⟩) hb).trans (hc k hlt)
      have hk1 : (0 : Int) ≤ (k : Int) := by omega
      have hk2 : (k : Int) < (zs.length : Int) := by omega
      by_cases hx0 : nth zs k = 0
      · have HF := Lib.hid (setF_not zs k hlt hx0)
        rw [hx0] at hcx'
        clear hx0
        gi_wp2
        refine ⟨(fun f h => by cases h), ?_⟩
        gi_wp2
        go_roundw
        case rel => exact ⟨k + 1, by omega, by go_num, by rw [HF.out]; exact hJs, hnx⟩
        case measure => simp [intOf]; omega
      · have HF := Lib.hid (setF_set zs k hlt hx0)
        have hd : (nth zs k != 0) = true := by rw [bne_iff_ne]; exact hx0
        obtain ⟨fn, tmps, assign, body, hy, hR⟩ := hY _ ⟨k, hlt⟩ wr ⟨rfl, hx0⟩ hJs
        obtain ⟨x, hx⟩ : ∃ x, nth zs k = x := ⟨_, rfl⟩
        rw [hx] at hcx' hd
        clear hx hx0
        simp only [setV] at hy
        gi_wp2
        refine hR.mono ?_
        rintro e W3 ⟨rfl, hJ3, hk3⟩
        gi_wp2
        go_roundw
        case rel => exact ⟨k + 1, by omega, by go_num, by rw [HF.out]; exact hJ3, hnx.trans hk3⟩
        case measure => simp [intOf]; omega
    · obtain rfl : k = zs.length := by omega
      gi_wp2
      go_end0
      exact ⟨⟨_, rfl⟩, _, rfl, hJs⟩
theorem set_nexts (F : Fence) (n : Nat) (h7 : F.fn 109) (hro : F.round = none) (hn : 1 ≤ n) (Bs n₀ c : Nat) (A : Option Addr) (zs : List Int) (hz : zs.length ≤ 1048576) (w wa : World) (hBs : Bs < w.heap.size) (hn₀ : n₀ = wa.heap.size) (hB : Below n₀ wa w) (hsz : n₀ ≤ w.heap.size)
    (hc : w.cell? ⟨Bs, 0, none⟩ = some (.slice A zs.length c)) (hS : Sl wa A zs) :
    Nexts F n Tryd.prog 109 #[.pointer (some ⟨Bs, 0, none⟩)] (setV zs) n₀ (fun pre x => pre = setF zs x.val ∧ nth zs x.val ≠ 0) (fun ys => ys = setF zs zs.length) w := fun l J W hW hY h0 => by
  have hc' := (hW.cell (p := ⟨Bs, 0, none⟩) hBs).trans hc
  rcases Nat.eq_zero_or_pos zs.length with h | h
  · have e := List.eq_nil_of_length_eq_zero h
    subst e
    exact (set_nil_in F n h7 hro l Bs A c J W hc' h0).mono fun e W' ⟨he, hj⟩ => ⟨he, _, rfl, hj⟩
  · obtain ⟨b, off, rfl, hb, hcs⟩ := hS h
    refine set_nexts_in F n h7 hro hn l Bs n₀ b off c zs hz (by omega) J hY W hc' (fun j hj => ?_) h0
    exact ((hW.mono hsz).cell (p := ⟨b, off + j, none⟩) (by show b < n₀; omega)).trans ((hB.cell (p := ⟨b, off + j, none⟩) (by show b < n₀; omega)).trans (hcs j hj))
end Go.Proofs.YtecpanppnljkhaaDoor
