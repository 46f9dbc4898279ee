/- The iterator over a pool's parts, and what uses it: inPool, Shared. -/
import Derived.Test.YtcbkocjpkdcpfaaSg
namespace Go.Proofs.Ytcbkocjpkdcpfaa
set_option linter.unusedVariables false
open Go.RowKit Go.Shelf

attribute [local go_sem] Oper.semAt_some
/-- What the iterator over parts hands out: the span. -/
def partV (ss ls : List Int) (n : Nat) (x : Fin n) : Array Value := #[.agg #[.int .i64 (nth ss x.val), .int .i64 (nth ls x.val)]]

set_option maxRecDepth 100000 in
set_option maxHeartbeats 2000000 in
theorem parts_in (F : Fence) (n : Nat) (h7 : F.fn 64) (hro : F.round = none) (hn : 1 ≤ n) (l B1 B2 n₀ b off c b' off' c' : Nat) (ss ls : List Int) (hlen : ss.length ≤ 1048576) (hll : ls.length = ss.length) (hb : b < n₀) (hb' : b' < n₀) (J Jx : List (Fin ss.length) → World → Prop)
    (hY : ∀ pre x W, J pre W → pre.length < ss.length → YieldAt F (n - 1) Try.prog l (partV ss ls ss.length x) W fun e W' =>
      (e = .returned (.bool true) ∧ J (pre ++ [x]) W' ∧ KpB n₀ B2 W W') ∨ (e = .returned (.bool false) ∧ Jx (pre ++ [x]) W'))
    (W : World) (hB1 : Blk W B1 22 #[.slice (some ⟨b, off, none⟩) ss.length c]) (hB2 : Blk W B2 22 #[.slice (some ⟨b', off', none⟩) ls.length c'])
    (hc : ∀ j, j < ss.length → W.cell? ⟨b, off + j, none⟩ = some (.int .i64 (nth ss j))) (hc' : ∀ j, j < ls.length → W.cell? ⟨b', off' + j, none⟩ = some (.int .i64 (nth ls j))) (h0 : J [] W) :
    CallsIn F n Try.prog 64 #[.func (.yield l) #[] #[], .pointer (some ⟨B1, 0, none⟩), .pointer (some ⟨B2, 0, none⟩)] W fun e W' => (∃ v, e = .returned v) ∧
      ((∃ ys, ys = List.finRange ss.length ∧ J ys W') ∨ (∃ pre, (∃ k, k ≤ ss.length ∧ pre = fr ss.length k) ∧ Jx pre W')) := by
  rw [hll] at hB2 hc'
  have hBc := hB1.cell 0
  simp at hBc
  refine callsIn_of_wp Try.func64 rfl h7 ?_ hro
  simp only [Try.ntmps64, List.size_toArray, List.length_cons, List.length_nil, Nat.reduceAdd, Nat.reduceSub, Array.replicate_succ, Array.replicate_zero, List.push_toArray, List.append_toArray, List.nil_append, List.cons_append]
  gi_wp2
  gi_loopw [8] (fun i wr => ∃ (k : Nat), k ≤ ss.length ∧ i = .int .i64 k ∧ J (fr ss.length k) wr ∧ KpB n₀ B2 W wr)
    (fun i _ => ss.length - (intOf i).toNat)
  case atStart => exact ⟨0, Nat.zero_le _, rfl, h0, kpB_refl _ _ _⟩
  case round =>
    obtain ⟨k, hk, rfl, hJs, hnx⟩ := hrel
    by_cases hlt : k < ss.length
    · have hcx := (hnx.1.cell (p := ⟨b, off + k, none⟩) hb).trans (hc k hlt)
      have hcx' := (hnx.1.cell (p := ⟨b', off' + k, none⟩) hb').trans (hc' k hlt)
      have hBr : Blk wr B2 22 #[.slice (some ⟨b', off', none⟩) ss.length c'] := hnx.2.trans hB2
      have hBc' := hBr.cell 0
      simp at hBc'
      have HF := Lib.hid (fr_succ ss.length k hlt)
      obtain ⟨fn, tmps, assign, body, hy, hR⟩ := hY _ ⟨k, hlt⟩ wr hJs (by rw [fr_length _ _ hk]; exact hlt)
      simp only [partV] at hy
      have hp1 : (0 : Int) ≤ (k : Int) := by omega
      have hp2 : (k : Int) < (ss.length : Int) := by omega
      clear hBc
      gi_wp2
      refine hR.mono ?_
      rintro e W3 (⟨rfl, hJ3, hk3⟩ | ⟨rfl, hJx3⟩)
      · gi_wp2
        go_roundw
        case rel => exact ⟨k + 1, by omega, by go_num, by rw [HF.out]; exact hJ3, kpB_t hnx hk3⟩
        case measure => simp [intOf]; omega
      · gi_wp2
        refine bodyPost_ret (results_none rfl _ _ _) rfl ?_
        exact ⟨⟨_, rfl⟩, .inr ⟨_, ⟨k + 1, by omega, HF.out.symm⟩, hJx3⟩⟩
    · obtain rfl : k = ss.length := by omega
      gi_wp2
      go_end0
      exact ⟨⟨_, rfl⟩, .inl ⟨_, fr_all _, hJs⟩⟩

set_option maxRecDepth 100000 in
set_option maxHeartbeats 1000000 in
theorem parts_nil_in (F : Fence) (n : Nat) (h7 : F.fn 64) (hro : F.round = none) (l B1 B2 : Nat) (A : Option Addr) (c : Nat) (J : List (Fin (List.length ([] : List Int))) → World → Prop) (W : World) (hBs : W.cell? ⟨B1, 0, none⟩ = some (.slice A 0 c)) (h0 : J [] W) :
    CallsIn F n Try.prog 64 #[.func (.yield l) #[] #[], .pointer (some ⟨B1, 0, none⟩), .pointer (some ⟨B2, 0, none⟩)] W fun e W' => (∃ v, e = .returned v) ∧ J [] W' := by
  refine callsIn_of_wp Try.func64 rfl h7 ?_ hro
  simp only [Try.ntmps64, List.size_toArray, List.length_cons, List.length_nil, Nat.reduceAdd, Nat.reduceSub, Array.replicate_succ, Array.replicate_zero, List.push_toArray, List.append_toArray, List.nil_append, List.cons_append]
  gi_wp2
  gi_loopw [8] (fun i wr => i = .int .i64 0 ∧ J [] wr) (fun _ _ => 0)
  case atStart => exact ⟨rfl, h0⟩
  case round =>
    obtain ⟨rfl, hJs⟩ := hrel
    gi_wp2
    go_end0
    exact ⟨⟨_, rfl⟩, hJs⟩

theorem parts_stops (F : Fence) (n : Nat) (h7 : F.fn 64) (hro : F.round = none) (hn : 1 ≤ n) (B1 B2 n₀ c c' : Nat) (A A' : Option Addr) (ss ls : List Int) (hlen : ss.length ≤ 1048576) (hll : ls.length = ss.length) (w wa : World) (hn₀ : n₀ = wa.heap.size) (hB : Below n₀ wa w) (hsz : n₀ ≤ w.heap.size)
    (hb1 : Blk w B1 22 #[.slice A ss.length c]) (hb2 : Blk w B2 22 #[.slice A' ls.length c']) (hS : Sl wa A ss) (hS' : Sl wa A' ls) :
    SeqStopsK F n Try.prog 64 #[.pointer (some ⟨B1, 0, none⟩), .pointer (some ⟨B2, 0, none⟩)] (partV ss ls ss.length) (KpB n₀ B2) (fun ys => ys = List.finRange ss.length) (fun pre => ∃ k, k ≤ ss.length ∧ pre = fr ss.length k) ss.length w := fun l J Jx W hW _ _ hY h0 => by
  have hb1' : Blk W B1 22 #[.slice A ss.length c] := hb1.below hW hb1.lt
  have hb2' : Blk W B2 22 #[.slice A' ls.length c'] := hb2.below hW hb2.lt
  rcases Nat.eq_zero_or_pos ss.length with h | h
  · have e := List.eq_nil_of_length_eq_zero h
    subst e
    have hc2 := hb1'.cell 0
    exact (parts_nil_in F n h7 hro l B1 B2 A c J W hc2 h0).mono fun e W' ⟨he, hj⟩ => ⟨he, .inl ⟨_, rfl, hj⟩⟩
  · obtain ⟨b, off, rfl, hb, hcs⟩ := hS h
    obtain ⟨b', off', rfl, hb', hcs'⟩ := hS' (by omega)
    refine parts_in F n h7 hro hn l B1 B2 n₀ b off c b' off' c' ss ls hlen hll (by omega) (by omega) J Jx hY W hb1' hb2' (fun j hj => ?_) (fun j hj => ?_) h0
    · exact ((hW.mono hsz).cell (p := ⟨b, off + j, none⟩) (by show b < n₀; omega)).trans ((hB.cell (p := ⟨b, off + j, none⟩) (by show b < n₀; omega)).trans (hcs j hj))
    · exact ((hW.mono hsz).cell (p := ⟨b', off' + j, none⟩) (by show b' < n₀; omega)).trans ((hB.cell (p := ⟨b', off' + j, none⟩) (by show b' < n₀; omega)).trans (hcs' j hj))

/-! ### inPool -/
/-- A part lies in the pool. -/
def okAt (ss ls : List Int) (n : Int) (k : Nat) : Bool := decide (0 ≤ nth ss k ∧ 0 ≤ nth ls k ∧ nth ss k + nth ls k ≤ n)
def poolOk (ss ls : List Int) (n : Int) : Bool := (List.range ss.length).all (okAt ss ls n)
theorem poolOk_all {ss ls : List Int} {n : Int} (h : ∀ k, k < ss.length → okAt ss ls n k = true) : poolOk ss ls n = true := by
  unfold poolOk; rw [List.all_eq_true]; intro x hx; exact h x (List.mem_range.1 hx)
theorem poolOk_not {ss ls : List Int} {n : Int} (k : Nat) (hk : k < ss.length) (h : okAt ss ls n k = false) : poolOk ss ls n = false := by
  unfold poolOk; rw [List.all_eq_false]; exact ⟨k, List.mem_range.2 hk, by rw [h]; simp⟩
theorem poolOk_at {ss ls : List Int} {n : Int} (h : poolOk ss ls n = true) (k : Nat) (hk : k < ss.length) : 0 ≤ nth ss k ∧ 0 ≤ nth ls k ∧ nth ss k + nth ls k ≤ n := by
  unfold poolOk at h; rw [List.all_eq_true] at h
  have := h k (List.mem_range.2 hk)
  simpa [okAt] using this

set_option maxRecDepth 100000 in
set_option maxHeartbeats 2000000 in
theorem inPool_any (A A' : Option Addr) (c c' : Nat) (ss ls : List Int) (n : Int) (w : World) (h : Sl w A ss) (h' : Sl w A' ls) (hlen : ss.length ≤ 1048576) (hll : ls.length = ss.length) (hn : 0 ≤ n ∧ n ≤ 1048576) (hb : ∀ j, j < ls.length → nth ls j ≤ 9223372036854775807) :
    Calls Try.prog 52 #[.slice A ss.length c, .slice A' ls.length c', .int .i64 n] w (RetV w (.bool (poolOk ss ls n))) := by
  have HLL := Lib.hid hll
  refine (callsIn_wide (n := 8)).1 ?_
  refine callsIn_of_wp_marks Try.func52 rfl trivial ?_ rfl
  simp only [Try.ntmps52, List.size_toArray, List.length_cons, List.length_nil, Nat.reduceAdd, Nat.reduceSub, Array.replicate_succ, Array.replicate_zero, List.push_toArray, List.append_toArray, List.nil_append, List.cons_append]
  gi_wp2_with ((refine ⟨trivial, ?_⟩; gi_at_call 53; refine (callsIn_wide.2 (parts_any _ _ _ _ _ _ _)).mono ?_; rintro e w' ⟨rfl, rfl⟩))
  have bN := ((((Blk.new w 3 #[.int .i64 n]).alloc (.cells #[.bool false] 4)).alloc (.cells #[.slice A ss.length c] 22)).alloc (.cells #[.slice A' ss.length c'] 22))
  have bR := ((((Blk.new (w.alloc (.cells #[.int .i64 n] 3)) 4 #[.bool false])).alloc (.cells #[.slice A ss.length c] 22)).alloc (.cells #[.slice A' ss.length c'] 22))
  have b1 := (((Blk.new ((w.alloc (.cells #[.int .i64 n] 3)).alloc (.cells #[.bool false] 4)) 22 #[.slice A ss.length c])).alloc (.cells #[.slice A' ss.length c'] 22))
  have b2 := Blk.new (((w.alloc (.cells #[.int .i64 n] 3)).alloc (.cells #[.bool false] 4)).alloc (.cells #[.slice A ss.length c] 22)) 22 #[.slice A' ss.length c']
  simp only [World.size_alloc] at bR b1 b2
  have hBW : Below w.heap.size w ((((w.alloc (.cells #[.int .i64 n] 3)).alloc (.cells #[.bool false] 4)).alloc (.cells #[.slice A ss.length c] 22)).alloc (.cells #[.slice A' ss.length c'] 22)) := ((((Below.refl _ w).alloc (Nat.le_refl _) _).alloc (by simp) _).alloc (by simp; omega) _).alloc (by simp; omega) _
  have hsz : w.heap.size + 4 ≤ ((((w.alloc (.cells #[.int .i64 n] 3)).alloc (.cells #[.bool false] 4)).alloc (.cells #[.slice A ss.length c] 22)).alloc (.cells #[.slice A' ss.length c'] 22)).heap.size := by simp
  obtain ⟨W0, hW0⟩ : ∃ W0, (((w.alloc (.cells #[.int .i64 n] 3)).alloc (.cells #[.bool false] 4)).alloc (.cells #[.slice A ss.length c] 22)).alloc (.cells #[.slice A' ss.length c'] 22) = W0 := ⟨_, rfl⟩
  rw [hW0] at bN bR b1 b2 hBW hsz ⊢
  clear hW0
  refine wpIn_rangeFunc_ownH rfl (by omega) (gf := 64) (lb := #[.pointer (some ⟨w.heap.size + 1 + 1, 0, none⟩), .pointer (some ⟨w.heap.size + 1 + 1 + 1, 0, none⟩)]) rfl trivial (enters_of Try.func64 (by kernel_rfl) rfl)
    (parts_stops Fence.wide (8 - 1) trivial rfl (by omega) (w.heap.size + 1 + 1) (w.heap.size + 1 + 1 + 1) w.heap.size c c' A A' ss ls hlen HLL.out W0 w rfl hBW (by omega) b1 (by rw [HLL.out]; exact b2) h h') kpB_t (kpB_b (by omega) (by omega)) (Below.refl _ _) (fun _ => rfl)
    (fun pre W => Blk W w.heap.size 3 #[.int .i64 n] ∧ Blk W (w.heap.size + 1) 4 #[.bool false] ∧ Blk W (w.heap.size + 1 + 1 + 1) 22 #[.slice A' ss.length c'] ∧ Below w.heap.size w W ∧ (∀ x ∈ pre, okAt ss ls n x.val = true))
    (fun cd pre W => cd = .ret ∧ Blk W (w.heap.size + 1) 4 #[.bool false] ∧ Below w.heap.size w W ∧ (∃ x : Fin ss.length, okAt ss ls n x.val = false))
    (fun _ X Y row hs hg hr => ⟨hs.1.aside hg hr, hs.2.1.aside hg hr, hs.2.2.1.aside hg hr, below_aside hs.2.2.2.1 (Nat.le_refl _) (by omega) hg hr, hs.2.2.2.2⟩)
    (fun _ _ X Y row hs hg hr => ⟨hs.1, hs.2.1.aside hg hr, below_aside hs.2.2.1 (Nat.le_refl _) (by omega) hg hr, hs.2.2.2⟩)
    ⟨bN, bR, b2, hBW, by simp⟩
    (fun x a' W => ∃ Bx, w.heap.size + 3 < Bx ∧ Blk W Bx 52 #[.int .i64 (nth ss x.val), .int .i64 (nth ls x.val)] ∧ a' = ⟨#[Value.slice A ss.length c, Value.slice A' ss.length c', Value.int IntKind.i64 n, undef, undef,
          Value.pointer (some { block := w.heap.size, off := 0 }),
          Value.pointer (some { block := w.heap.size + 1, off := 0 }), .pointer (some ⟨Bx, 0, none⟩), Value.slice A ss.length c,
          Value.slice A' ss.length c',
          Value.func (Fn.func 64) #[]
            #[Value.pointer (some { block := w.heap.size + 1 + 1, off := 0 }),
              Value.pointer (some { block := w.heap.size + 1 + 1 + 1, off := 0 })],
          .agg #[.int .i64 (nth ss x.val), .int .i64 (nth ls x.val)], undef, undef, undef, undef, undef, undef, undef, undef, undef, undef, undef, undef, undef, undef, undef,
          undef, undef], []⟩)
    (fun x a' _ X Y row hs hg hr => by obtain ⟨Bx, h1, h2, h3⟩ := hs; exact ⟨Bx, h1, h2.aside hg hr, h3⟩)
    ?assign ?body ?done ?stop
  case assign =>
    rintro l pre x W K ⟨i1, i2, i5, i3, i4⟩ hK
    have hlt := i5.lt
    have hsw := i3.size
    simp only [partV]
    gi_wp2
    exact hK _ _ ((KeepsOthers.alloc _ _).from _) ⟨(Below.refl _ W).alloc i3.size _, Below.heap_alloc W _ _ hlt⟩ ⟨i1.alloc _, i2.alloc _, i5.alloc _, i3.alloc i3.size _, i4⟩ ⟨W.heap.size, by omega, Blk.new W 52 _, rfl⟩
  case body =>
    rintro l pre x a' W hl ⟨r, hr⟩ ⟨i1, i2, i5, i4, i3⟩ ⟨Bx, hBx, bX, rfl⟩ hlt
    have c1 := i1.cell 0
    have c2 := bX.cell 0
    have c3 := bX.cell 1
    have c4 := i2.cell 0
    have f2 := i2.frozen 0
    have hsw := i4.size
    simp at c1 c2 c3 c4
    by_cases hs : nth ss x.val < 0
    · have hko : okAt ss ls n x.val = false := by simp [okAt]; omega
      have hd : decide (nth ss x.val < 0) = true := by simpa using hs
      gi_wp2
      exact ⟨(KeepsOthers.setCell _ _ _).from _, rfl, i2.set_ 0 (.bool false), i4.setCell (p := ⟨w.heap.size + 1, 0, none⟩) (by simp) _, x, hko⟩
    · have hd : decide (nth ss x.val < 0) = false := by simpa using hs
      by_cases hs2 : nth ls x.val < 0
      · have hko : okAt ss ls n x.val = false := by simp [okAt]; omega
        have hd2 : decide (nth ls x.val < 0) = true := by simpa using hs2
        gi_wp2
        exact ⟨(KeepsOthers.setCell _ _ _).from _, rfl, i2.set_ 0 (.bool false), i4.setCell (p := ⟨w.heap.size + 1, 0, none⟩) (by simp) _, x, hko⟩
      · have hd2 : decide (nth ls x.val < 0) = false := by simpa using hs2
        have hle := hb x.val (by rw [hll]; exact x.isLt)
        have hw1 : IntKind.i64.wrap (n - nth ls x.val) = n - nth ls x.val := IntWalk.i64_in _ (by omega)
        by_cases hs3 : n - nth ls x.val < nth ss x.val
        · have hko : okAt ss ls n x.val = false := by simp [okAt]; omega
          have hd3 : decide (n - nth ls x.val < nth ss x.val) = true := by simpa using hs3
          gi_wp2
          exact ⟨(KeepsOthers.setCell _ _ _).from _, rfl, i2.set_ 0 (.bool false), i4.setCell (p := ⟨w.heap.size + 1, 0, none⟩) (by simp) _, x, hko⟩
        · have hko : okAt ss ls n x.val = true := by simp [okAt]; omega
          have hd3 : decide (n - nth ls x.val < nth ss x.val) = false := by simpa using hs3
          gi_wp2
          refine ⟨(KeepsFrom.refl _ _), kpB_refl _ _ _, i1, i2, i5, i4, fun y hy => ?_⟩
          rcases List.mem_append.1 hy with hy | hy
          · exact i3 y hy
          · rw [List.mem_singleton.1 hy]; exact hko
  case done =>
    rintro D ys' W hD rfl ⟨i1, i2, i5, i4, i3⟩ hK
    have c1 := i2.cell 0
    have f1 := i2.frozen 0
    simp at c1
    have hok : poolOk ss ls n = true := poolOk_all fun k hk => i3 ⟨k, hk⟩ (List.mem_finRange _)
    rw [hok]
    gi_wp2
    have hK' := (Below.heap_setCell W ⟨w.heap.size + 1, 0, none⟩ (.bool true) D (by show D ≠ w.heap.size + 1; omega)).trans hK
    refine ⟨by simp, .inl ⟨_, _, rfl, run_takeDeferred hK', ?_⟩⟩
    have j2 := (i2.set_ 0 (.bool true)).aside (grownBy_putObj' _ D (.deferred none)) (B := 0) (fun r e => by cases e; exact ⟨Nat.zero_le _, _, hK', rfl⟩)
    have j4 := below_aside (B := w.heap.size) (i4.setCell (p := ⟨w.heap.size + 1, 0, none⟩) (by simp) (.bool true)) (Nat.le_refl _) (Nat.le_refl _) (grownBy_putObj' _ D (.deferred none)) (fun r e => by cases e; exact ⟨by omega, _, hK', rfl⟩)
    have c2 := j2.cell 0
    simp at c2
    exact ⟨.bool true, by simp [results, Try.f52, go_sem, c2], by rw [hok], j4⟩
  case stop =>
    rintro D cd pre W hD ⟨k, hk, rfl⟩ ⟨rfl, i1, i4, y, hy⟩ hK
    have hok : poolOk ss ls n = false := poolOk_not y.val y.isLt hy
    rw [hok]
    gi_wp2
    refine ⟨by simp, .inl ⟨_, _, rfl, run_takeDeferred hK, ?_⟩⟩
    have j2 := i1.aside (grownBy_putObj' W D (.deferred none)) (B := 0) (fun r e => by cases e; exact ⟨Nat.zero_le _, _, hK, rfl⟩)
    have j4 := below_aside (B := w.heap.size) i4 (Nat.le_refl _) (Nat.le_refl _) (grownBy_putObj' W D (.deferred none)) (fun r e => by cases e; exact ⟨by omega, _, hK, rfl⟩)
    have c2 := j2.cell 0
    simp at c2
    exact ⟨.bool false, by simp [results, Try.f52, go_sem, c2], rfl, j4⟩

/-! ### Shared -/
def shE (ss ls : List Int) (n : Int) : Int := if fitE ss.length ls.length ≠ 0 then fitE ss.length ls.length else if ¬ (0 ≤ n ∧ n ≤ 1048576) then 2 else if poolOk ss ls n then (if 1048576 < ls.sum then 9 else 0) else 2
def shN (ss ls : List Int) (n : Int) : Int := if shE ss ls n = 0 then ls.sum else 0
theorem fitE_ok {n m : Nat} (h : fitE n m = 0) : n ≤ 1048576 ∧ m = n := by
  unfold fitE at h
  split at h
  · simp at h
  · split at h
    · simp at h
    · omega
theorem sh_fit {ss ls : List Int} {n : Int} (h : fitE ss.length ls.length ≠ 0) : shE ss ls n = fitE ss.length ls.length ∧ shN ss ls n = 0 := by
  have : shE ss ls n = fitE ss.length ls.length := by simp [shE, h]
  exact ⟨this, by unfold shN; rw [this, if_neg h]⟩
theorem sh_size {ss ls : List Int} {n : Int} (h : fitE ss.length ls.length = 0) (hn : ¬ (0 ≤ n ∧ n ≤ 1048576)) : shE ss ls n = 2 ∧ shN ss ls n = 0 := by
  have : shE ss ls n = 2 := by unfold shE; rw [if_neg (by simpa using h), if_pos hn]
  exact ⟨this, by unfold shN; rw [this]; rfl⟩
theorem sh_bad {ss ls : List Int} {n : Int} (h : fitE ss.length ls.length = 0) (hn : 0 ≤ n ∧ n ≤ 1048576) (hp : poolOk ss ls n = false) : shE ss ls n = 2 ∧ shN ss ls n = 0 := by
  have : shE ss ls n = 2 := by unfold shE; rw [if_neg (by simpa using h), if_neg (by simpa using hn), hp]; rfl
  exact ⟨this, by unfold shN; rw [this]; rfl⟩
theorem pool_pos {ss ls : List Int} {n : Int} (hl : ls.length = ss.length) (hp : poolOk ss ls n = true) : PosTo ls ls.length := fun j hj => (poolOk_at hp j (by omega)).2.1
theorem sh_sum {ss ls : List Int} {n : Int} (h : fitE ss.length ls.length = 0) (hn : 0 ≤ n ∧ n ≤ 1048576) (hp : poolOk ss ls n = true) : shE ss ls n = sumE ls ∧ shN ss ls n = sumN ls := by
  have hneg := isNeg_none ls (pool_pos (fitE_ok h).2 hp)
  have : shE ss ls n = if 1048576 < ls.sum then 9 else 0 := by unfold shE; rw [if_neg (by simpa using h), if_neg (by simpa using hn), if_pos hp]
  unfold shN
  rw [this]
  by_cases hs : 1048576 < ls.sum
  · rw [if_pos hs]; obtain ⟨a, b⟩ := sumE_full hneg hs; rw [a, b]; exact ⟨rfl, rfl⟩
  · rw [if_neg hs]; obtain ⟨a, b⟩ := sumE_ok hneg (by omega : ls.sum ≤ 1048576); rw [a, b]; exact ⟨rfl, rfl⟩
/-- What a pool that is let by is. -/
structure Pool (ss ls : List Int) (n : Nat) : Prop where
  size : n ≤ 1048576
  many : ss.length ≤ 1048576
  len : ls.length = ss.length
  at_ : ∀ k, k < ss.length → 0 ≤ nth ss k ∧ 0 ≤ nth ls k ∧ nth ss k + nth ls k ≤ (n : Int)
  sum : ls.sum ≤ 1048576
theorem Pool.of {ss ls : List Int} {n : Int} (h : shE ss ls n = 0) : ∃ N : Nat, n = (N : Int) ∧ Pool ss ls N ∧ shN ss ls n = ls.sum := by
  by_cases h1 : fitE ss.length ls.length = 0
  · by_cases h2 : 0 ≤ n ∧ n ≤ 1048576
    · cases h3 : poolOk ss ls n with
      | false => have := (sh_bad h1 h2 h3).1; omega
      | true =>
        have h4 := (sh_sum h1 h2 h3).1
        obtain ⟨a, b⟩ := fitE_ok h1
        refine ⟨n.toNat, by omega, ⟨by omega, a, b, fun k hk => ?_, ?_⟩, ?_⟩
        · have := poolOk_at h3 k hk; omega
        · rcases Int.lt_or_le 1048576 ls.sum with h5 | h5
          · have := (sumE_full (isNeg_none ls (pool_pos b h3)) h5).1; omega
          · exact h5
        · unfold shN; rw [if_pos h]
    · have := (sh_size (ss := ss) (ls := ls) h1 h2).1; omega
  · have := (sh_fit (n := n) h1).1; omega

set_option maxRecDepth 100000 in
set_option maxHeartbeats 2000000 in
theorem shared_any (A A' : Option Addr) (c c' : Nat) (ss ls : List Int) (n : Int) (w : World) (h : Sl w A ss) (h' : Sl w A' ls) (hls : ss.length ≤ 9223372036854775807) (hll : ls.length ≤ 9223372036854775807) (hb : ∀ j, j < ls.length → nth ls j ≤ 9223372036854775807) :
    Calls Try.prog 27 #[.slice A ss.length c, .slice A' ls.length c', .int .i64 n] w (RetV w (.tuple #[.int .i64 (shN ss ls n), .int .i64 (shE ss ls n)])) := by
  have C1 := fit2_any w.heap.size A A' ss.length c ls.length c' (w.alloc (.cells #[.slice A ss.length c, .slice A' ls.length c'] 22)) hls hll (cell2a _ _ _ _) (cell2b _ _ _ _)
  have C2 := isSize_any n (w.alloc (.cells #[.slice A ss.length c, .slice A' ls.length c'] 22))
  have hB0 : Below w.heap.size w (w.alloc (.cells #[.slice A ss.length c, .slice A' ls.length c'] 22)) := (Below.refl _ _).alloc (Nat.le_refl _) _
  by_cases h1 : fitE ss.length ls.length = 0
  · obtain ⟨hs1, hs2⟩ := fitE_ok h1
    rw [h1] at C1
    by_cases h2 : 0 ≤ n ∧ n ≤ 1048576
    · rw [decide_eq_true h2] at C2
      have C3 := inPool_any A A' c c' ss ls n (w.alloc (.cells #[.slice A ss.length c, .slice A' ls.length c'] 22)) (h.step hB0) (h'.step hB0) hs1 hs2 h2 hb
      cases h3 : poolOk ss ls n with
      | false =>
        rw [h3] at C3
        have HE := Lib.hid (sh_bad h1 h2 h3)
        clear h1 hb hs1 hs2
        go_enter Try.func27, Try.ntmps27
        go_wp2_with (first | (go_at_call 46; refine C1.mono ?_; rintro e w3 ⟨rfl, rfl⟩) | (go_at_call 51; refine C2.mono ?_; rintro e w3 ⟨rfl, rfl⟩) | (go_at_call 52; refine C3.mono ?_; rintro e w3 ⟨rfl, h3'⟩))
        go_ret2
        rw [HE.out.1, HE.out.2]
        exact ⟨rfl, hB0.trans (h3'.mono (by simp))⟩
      | true =>
        rw [h3] at C3
        have HE := Lib.hid (sh_sum h1 h2 h3)
        clear h1 hb hs1 hs2
        go_enter Try.func27, Try.ntmps27
        go_wp2_with (first | (go_at_call 46; refine C1.mono ?_; rintro e w3 ⟨rfl, rfl⟩) | (go_at_call 51; refine C2.mono ?_; rintro e w3 ⟨rfl, rfl⟩) | (go_at_call 52; refine C3.mono ?_; rintro e w3 ⟨rfl, h3'⟩; have C4 := sum_any A' c' ls w3 ((h'.step hB0).step h3') hll) | (go_at_call 47; refine C4.mono ?_; rintro e w4 ⟨rfl, rfl⟩))
        go_ret2
        rw [HE.out.1, HE.out.2]
        exact ⟨rfl, hB0.trans (h3'.mono (by simp))⟩
    · rw [decide_eq_false h2] at C2
      have HE := Lib.hid (sh_size (ss := ss) (ls := ls) h1 h2)
      clear h1 hb h2 hs1 hs2
      go_enter Try.func27, Try.ntmps27
      go_wp2_with (first | (go_at_call 46; refine C1.mono ?_; rintro e w3 ⟨rfl, rfl⟩) | (go_at_call 51; refine C2.mono ?_; rintro e w3 ⟨rfl, rfl⟩))
      go_ret2
      rw [HE.out.1, HE.out.2]
      exact ⟨rfl, hB0⟩
  · have hd : (fitE ss.length ls.length != 0) = true := by rw [bne_iff_ne]; exact h1
    have HE := Lib.hid (sh_fit (n := n) h1)
    clear h1 hb
    go_enter Try.func27, Try.ntmps27
    go_wp2_with (first | (go_at_call 46; refine C1.mono ?_; rintro e w' ⟨rfl, rfl⟩))
    go_ret2
    rw [HE.out.1, HE.out.2]
    exact ⟨rfl, hB0⟩
end Go.Proofs.Ytcbkocjpkdcpfaa
