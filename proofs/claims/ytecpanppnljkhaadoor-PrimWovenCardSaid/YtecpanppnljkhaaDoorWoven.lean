/- PrimWoven: for any slice of ints that can be read, and any two numbers, the law's call returns true, and they read as they did. No condition but the row's own (the listed table holds what the text lays). -/
import Derived.Test.YtecpanppnljkhaaDoorVa
import Derived.Test.YtecpanppnljkhaaDoorVo
import Derived.Test.YtecpanppnljkhaaDoorVl
import Derived.Test.YtecpanppnljkhaaDoorTa
import Derived.Test.YtecpanppnljkhaaDoorWv
import Derived.Test.YtecpanppnljkhaaDoorVp
import Derived.Test.YtecpanppnljkhaaDoorTie
import Derived.Test.YtecpanppnljkhaaDoorCards
namespace Go.Proofs.YtecpanppnljkhaaDoor.primWoven
open Go.ChangeShapes Go.WideShapes Go.ChangeAt Go.RowKit Go.ChangeMaps
set_option linter.unusedVariables false
def InW (w0 wr : World) (m n k : Nat) (v7 v8 v9 : Value) : Prop := ∃ (v : Nat → Value) (xs : Nat → List Value) (L : List (List Int)), Wv w0 wr k n (3 + k) v xs L (pwK m n k) ∧ v 0 = v7 ∧ v 1 = v8 ∧ v 2 = v9
def InO (w0 wr : World) (m n k i : Nat) (v7 v8 v9 v11 : Value) : Prop := ∃ (v : Nat → Value) (xs : Nat → List Value) (L : List (List Int)) (O : List Int), Wv w0 wr k n (3 + k + 1) v xs L (pwK m n k ++ mk (fun i => ((i * m + k : Nat) : Int)) i) ∧ v 0 = v7 ∧ v 1 = v8 ∧ v 2 = v9 ∧ v (3 + k) = v11 ∧ xs (3 + k) = O.map (Value.int .i64) ∧ O.length = i ∧ (∀ x ∈ O, isW x) ∧ v11 ≠ .slice none 0 0
theorem InW.below {w0 wr : World} {m n k : Nat} {v7 v8 v9 : Value} (h : InW w0 wr m n k v7 v8 v9) : Below w0.heap.size w0 wr := by
  obtain ⟨v, xs, L, h, _⟩ := h; exact h.below
theorem InO.below {w0 wr : World} {m n k i : Nat} {v7 v8 v9 v11 : Value} (h : InO w0 wr m n k i v7 v8 v9 v11) : Below w0.heap.size w0 wr := by
  obtain ⟨v, xs, L, O, h, _⟩ := h; exact h.below
theorem InW.begin_ {w0 wr : World} {m n k : Nat} {v7 v8 v9 : Value} (h : InW w0 wr m n k v7 v8 v9) : InO w0 (wr.alloc (.cells #[] 3)) m n k 0 v7 v8 v9 (.slice (some ⟨wr.heap.size, 0, none⟩) 0 0) := by
  obtain ⟨v, xs, L, h, rfl, rfl, rfl⟩ := h
  have hb := h.begin_
  rw [← List.append_nil (pwK m n k), ← mk_zero (fun i => ((i * m + k : Nat) : Int))] at hb
  refine ⟨_, _, L, [], hb, ?_, ?_, ?_, ?_, ?_, rfl, by simp, by simp⟩
  · rw [upd_ne _ _ (by omega)]
  · rw [upd_ne _ _ (by omega)]
  · rw [upd_ne _ _ (by omega)]
  · rw [upd_same]
  · rw [upd_same]; rfl
/-- what the append to the list wants -/
theorem InO.own_ {w0 wr : World} {m n k i : Nat} {v7 v8 v9 v11 : Value} (h : InO w0 wr m n k i v7 v8 v9 v11) : ∃ O : List Int, O.length = i ∧ (∀ x ∈ O, isW x) ∧ OwnI wr w0.heap.size v11 O ∧
    ∀ (o : Obj) (v' : Value) (w' : World) (y : Int), isW y → OwnI w' w0.heap.size v' (O ++ [y]) → (wr.alloc o).grownBy w' v11.ownBlock → (v' = .slice none 0 0 ↔ v11 = .slice none 0 0 ∧ 1 = 0) → (v'.ownBlock = v11.ownBlock ∨ v'.ownBlock = some (wr.alloc o).heap.size) →
      ∃ P, P = pwK m n k ++ mk (fun i => ((i * m + k : Nat) : Int)) i ∧ OwnI w' w0.heap.size v9 P ∧ w0.heap.size ≤ w'.heap.size ∧ ∀ (o2 : Obj) (v'' : Value) (w'' : World), OwnI w'' w0.heap.size v'' (P ++ [((i * m + k : Nat) : Int)]) → (w'.alloc o2).grownBy w'' v9.ownBlock → (v''.ownBlock = v9.ownBlock ∨ v''.ownBlock = some (w'.alloc o2).heap.size) → InO w0 w'' m n k (i + 1) v7 v8 v'' v' := by
  obtain ⟨v, xs, L, O, h, rfl, rfl, rfl, rfl, hx, hO, hw, hnn⟩ := h
  refine ⟨O, hO, hw, h.own_ hx, fun o v' w' y hy hown hg hni hd => ?_⟩
  have h1 := (h.alloc o).push hown hg hd
  refine ⟨_, rfl, ?_, h1.size, fun o2 v'' w'' hown2 hg2 hd2 => ?_⟩
  · have := h1.places
    rwa [upd_ne _ _ (by omega)] at this
  · have h2 := (h1.alloc o2).place hown2 (by rw [upd_ne _ _ (by omega)]; exact hg2) (by rw [upd_ne _ _ (by omega)]; exact hd2)
    rw [List.append_assoc, ← mk_succ (fun i => ((i * m + k : Nat) : Int))] at h2
    refine ⟨_, _, L, O ++ [y], h2, ?_, ?_, ?_, ?_, ?_, by simp [hO], fun z hz => ?_, fun e => hnn (hni.1 e).1⟩
    · rw [upd_ne _ _ (by omega), upd_ne _ _ (by omega)]
    · rw [upd_ne _ _ (by omega), upd_ne _ _ (by omega)]
    · rw [upd_same]
    · rw [upd_ne _ _ (by omega), upd_same]
    · rw [upd_ne _ _ (by omega), upd_same]
    · rcases List.mem_append.1 hz with h3 | h3
      · exact hw z h3
      · simp at h3; subst h3; exact hy
/-- what the two appends at the end of a list want -/
theorem InO.end_ {w0 wr : World} {m n k : Nat} {v7 v8 v9 v11 : Value} (h : InO w0 wr m n k n v7 v8 v9 v11) : ∃ (hs : List Value) (O F : List Int) (g c : Nat), hs.length = k ∧ O.length = n ∧ F.length = k * n ∧ v11 = .slice (some ⟨g, 0, none⟩) n c ∧ n ≤ c ∧ wr.ownsRow w0.heap.size 22 1 v7 k hs ∧
    ∀ (o : Obj) (v' : Value) (w' : World), w'.ownsRow w0.heap.size 22 1 v' (k + 1) (hs ++ [v11]) → (wr.alloc o).grownBy w' v7.ownBlock → (v'.ownBlock = v7.ownBlock ∨ v'.ownBlock = some (wr.alloc o).heap.size) →
      OwnI w' w0.heap.size v8 F ∧ w0.heap.size ≤ w'.heap.size ∧ (∀ j u, (O.map (Value.int .i64))[j]? = some u → w'.cell? ((⟨g, 0, none⟩ : Addr).add j) = some u) ∧ ∀ (v'' : Value) (w'' : World), OwnI w'' w0.heap.size v'' (F ++ O) → w'.grownBy w'' v8.ownBlock → (v''.ownBlock = v8.ownBlock ∨ v''.ownBlock = some w'.heap.size) → InW w0 w'' m n (k + 1) v' v'' v9 := by
  obtain ⟨v, xs, L, O, h, rfl, rfl, rfl, rfl, hx, hO, hw, hnn⟩ := h
  have ho := h.own_ hx
  obtain ⟨g, c, e, hc⟩ := own_some ho hnn
  have hl0 : (xs 0).length = k := by rw [h.x0]; simp
  have h00 := h.rows.own 0 (by omega)
  rw [hl0] at h00
  refine ⟨xs 0, O, L.flatten, g, c, hl0, hO, by rw [flat_length L n h.each, h.len], by rw [e, hO], by omega, h00, fun o v' w' ho1 hg1 hd1 => ?_⟩
  have hA := h.alloc o
  have h1 := hA.rows.app (i := 0) (by omega) (ys := xs 0 ++ [v (3 + k)]) (by rw [show eW 0 = 22 from rfl, List.length_append, hl0]; exact ho1) hg1 hd1
  have h11 := h1.ints (i := 1) (by omega) rfl (by rw [upd_ne _ _ (by omega)]; exact h.x1)
  rw [upd_ne _ _ (by omega)] at h11
  have h13 := h1.ints (i := 3 + k) (by omega) (by simp [eW]) (by rw [upd_ne _ _ (by omega)]; exact hx)
  rw [upd_ne _ _ (by omega), e] at h13
  refine ⟨h11, (hA.grow (i := 0) (by omega) hg1).size, fun j u hj => ?_, fun v'' w'' ho2 hg2 hd2 => ?_⟩
  · rw [List.getElem?_map] at hj
    obtain ⟨x, hx1, rfl⟩ := Option.map_eq_some_iff.1 hj
    obtain ⟨hjl, hx2⟩ := List.getElem?_eq_some_iff.1 hx1
    have := h13.cellAt j hjl
    rw [nth_eq O j hjl, hx2] at this
    rw [← this]
    congr 1
    unfold Addr.add; split <;> simp_all
  · have := hA.done_ hx hO hw ho1 hg1 hd1 ho2 hg2 hd2
    refine ⟨_, _, _, this, ?_, ?_, ?_⟩
    · rw [upd_ne _ _ (by omega), upd_same]
    · rw [upd_same]
    · rw [upd_ne _ _ (by omega), upd_ne _ _ (by omega)]
theorem InW.end_ {w0 wr : World} {m n : Nat} {v7 v8 v9 : Value} (h : InW w0 wr m n m v7 v8 v9) (hm : 0 < m) (hm10 : m ≤ 10) (hn : n ≤ 30) : ∃ (L : List (List Int)) (F P R : List Int) (A7 A8 A9 : Option Addr) (c7 c8 c9 : Nat), v7 = .slice A7 m c7 ∧ v8 = .slice A8 F.length c8 ∧ v9 = .slice A9 P.length c9 ∧ Sl wr A8 F ∧ Sl wr A9 P ∧ Sll wr A7 L ∧ F.length ≤ c8 ∧ P.length ≤ c9 ∧ R.length = m * n ∧ L.length = m ∧
    (∀ W A c, Sll W A L → Calls Tryd.prog 12 #[.slice A m c] W (RetL W R 0)) ∧ (∀ W A A' c c', Sl W A F → Sl W A' P → F.length ≤ c → P.length ≤ c' → Calls Tryd.prog 13 #[.slice A F.length c, .slice A' P.length c'] W (RetL W R 0)) := by
  obtain ⟨v, xs, L, h, rfl, rfl, rfl⟩ := h
  have hlen := h.len
  subst hlen
  obtain ⟨⟨A7, c7, e7, q7, s7⟩, ⟨A8, c8, e8, q8, s8⟩, ⟨A9, c9, e9, q9, s9⟩⟩ := h.end_
  obtain ⟨E1, E2, E3⟩ := woven_E h.each h.wrd hm hm10 hn
  have hF := flat_length L n h.each
  have hP := pwK_length L.length n L.length
  have hmn : L.length * n ≤ 10 * 30 := Nat.mul_le_mul hm10 hn
  refine ⟨L, L.flatten, pwK L.length n L.length, weK L n, A7, A8, A9, c7, c8, c9, e7, e8, e9, s8, s9, s7, q8, q9, by rw [weK_length, Nat.mul_comm], rfl, fun W A c hS => ?_, fun W A A' c c' hS hS' hc hc' => ?_⟩
  · have := weave_any A c L W hS (by omega) (fun j hj => by rw [h.each _ (nthL_mem L j hj)]; omega)
    rwa [E1, E2, orL_ok] at this
  · have := put_any A A' c c' L.flatten (pwK L.length n L.length) W hS hS' hc hc' (by unfold Ok; omega) (by unfold Ok; omega)
    rwa [E3, woven_put h.each hm, orL_ok] at this
theorem OwnI.apps {w : World} {base n : Nat} {v : Value} {zs O : List Int} (h : w.ownsRow base 3 1 v (zs.length + n) (zs.map (Value.int .i64) ++ O.map (Value.int .i64))) : OwnI w base v (zs ++ O) := by
  have h1 := h.1
  rw [List.length_append, List.length_map, List.length_map] at h1
  unfold OwnI
  rw [List.map_append, List.length_append, show O.length = n by omega]
  exact h
theorem InW.start {w wd : World} {m n s : Nat} (hB : Below w.heap.size w wd) (hs : wd.heap.size = s) : InW w (((wd.alloc (.cells #[] 22)).alloc (.cells #[] 3)).alloc (.cells #[] 3)) m n 0 (.slice (some ⟨s, 0, none⟩) 0 0) (.slice (some ⟨s + 1, 0, none⟩) 0 0) (.slice (some ⟨s + 1 + 1, 0, none⟩) 0 0) := by
  subst hs
  have hz := hB.size
  have r0 := (Rws.none wd w.heap.size eW (fun _ => .slice none 0 0) (fun _ => [])).add (e' := 22) (World.ownsRow_lit (base := w.heap.size) (e := 22) (size := 1) wd #[] 0 hz (by simp [maxLen]) rfl) (World.grownBy_alloc wd _ none) (fun k hk => by simp [Value.ownBlock] at hk; omega)
  have r1 := r0.add (e' := 3) (World.ownsRow_lit (base := w.heap.size) (e := 3) (size := 1) (wd.alloc (.cells #[] 22)) #[] 0 (by simp; omega) (by simp [maxLen]) rfl) (World.grownBy_alloc _ _ none) (fun k hk => by simp [Value.ownBlock] at hk; simp; omega)
  have r2 := r1.add (e' := 3) (World.ownsRow_lit (base := w.heap.size) (e := 3) (size := 1) ((wd.alloc (.cells #[] 22)).alloc (.cells #[] 3)) #[] 0 (by simp; omega) (by simp [maxLen]) rfl) (World.grownBy_alloc _ _ none) (fun k hk => by simp [Value.ownBlock] at hk; simp; omega)
  simp only [World.size_alloc] at r2
  refine ⟨_, _, [], ⟨rfl, by simp, by simp, r2.congr (fun i hi => ?_) (fun _ _ => rfl) (fun _ _ => rfl), rfl, rfl, rfl, fun j hj => by omega, ((hB.alloc hz _).alloc (by simp; omega) _).alloc (by simp; omega) _⟩, rfl, rfl, rfl⟩
  match i, hi with
  | 0, _ => rfl
  | 1, _ => rfl
  | 2, _ => rfl
set_option maxRecDepth 100000 in
set_option maxHeartbeats 40000000 in
theorem walk (A0 : Option Addr) (c0 : Nat) (z0 : List Int) (x y : Int) (w : World) (hI : Inv w) (h0 : Sl w A0 z0) (hc0 : z0.length ≤ c0) (k0 : Ok z0) :
    Calls Tryd.prog 3 #[.slice A0 z0.length c0, .agg #[.int .i64 x, .int .i64 y]] w (Good w) := by
  obtain ⟨i0, hi0, hz00, hz10, hz20⟩ := info_parts int_info
  obtain ⟨i1, hi1, hz01, hz11, hz21⟩ := info_parts sl_info
  obtain ⟨p, hp, hp10⟩ : ∃ p : Nat, x % 10 = (p : Int) ∧ p < 10 := ⟨(x % 10).toNat, by omega, by omega⟩
  obtain ⟨n, hn, hn31⟩ : ∃ n : Nat, y % 31 = (n : Int) ∧ n < 31 := ⟨(y % 31).toNat, by omega, by omega⟩
  have T1 : ∀ W, Calls Tryd.prog 9 #[.int .i64 x, .int .i64 10] W fun e w' => e = .returned (.int .i64 (p : Int)) ∧ w' = W := fun W => (turn_any x 10 (by omega) (by omega) W).mono fun e w' ⟨h1, h2⟩ => ⟨by rw [h1, hp], h2.symm⟩
  have T2 : ∀ W, Calls Tryd.prog 9 #[.int .i64 y, .int .i64 31] W fun e w' => e = .returned (.int .i64 (n : Int)) ∧ w' = W := fun W => (turn_any y 31 (by omega) (by omega) W).mono fun e w' ⟨h1, h2⟩ => ⟨by rw [h1, hn], h2.symm⟩
  have hmw : IntKind.i64.wrap (1 + (p : Int)) = ((p + 1 : Nat) : Int) := by rw [IntWalk.i64_in _ (by omega)]; omega
  obtain ⟨m, hm⟩ : ∃ m, p + 1 = m := ⟨_, rfl⟩
  rw [hm] at hmw
  have hm1 : 0 < m := by omega
  have hm10 : m ≤ 10 := by omega
  have T1' := Lib.hid T1
  have T2' := Lib.hid T2
  clear T1 T2
  have bA := Blk.new w 23 #[.int .i64 x, .int .i64 y]
  have q0 := bA.cell 0
  have q1 := bA.cell 1
  simp at q0 q1
  have hB0 : Below w.heap.size w (w.alloc (.cells #[.int .i64 x, .int .i64 y] 23)) := (Below.refl _ _).alloc (Nat.le_refl _) _
  clear hp hn hm hp10 bA
  go_enter Tryd.func3, Tryd.ntmps3
  go_wp2
  go_quiet ((go_at_call 9; first | (with_reducible exact Calls.quiet_of_same (T1'.out _)) | (with_reducible exact Calls.quiet_of_same (T2'.out _))))
  clear q0 q1 T1' T2'
  obtain ⟨wd, hwd⟩ : ∃ wd, (w.alloc (.cells #[.int .i64 x, .int .i64 y] 23)).drewN nq = wd := ⟨_, rfl⟩
  have hBd : Below w.heap.size w wd := by rw [← hwd]; exact below_drewN hB0 nq
  have hsd : wd.heap.size = w.heap.size + 1 := by rw [← hwd]; simp [World.drewN]
  rw [hwd]
  clear hwd hB0
  have hst := InW.start (m := m) (n := n) hBd hsd
  have HSD := Lib.hid hsd
  go_wp2
  go_loopw [7, 8, 9, 10] (fun u7 u8 u9 i wr => ∃ (k : Nat) (v7 v8 v9 : Value), k ≤ m ∧ i = .int .i64 k ∧ v7 = u7 ∧ v8 = u8 ∧ v9 = u9 ∧ InW w wr m n k v7 v8 v9) (fun _ _ _ i _ => m - (intOf i).toNat)
  case atStart => exact ⟨0, _, _, _, Nat.zero_le _, rfl, rfl, rfl, rfl, hst⟩
  case round =>
    clear hst
    obtain ⟨k, v7, v8, v9, hk, rfl, rfl, rfl, rfl, hW⟩ := hrel
    by_cases hlt : k < m
    · have hO0 := hW.begin_
      clear hW
      have q1 : (k : Int) < (m : Int) := by omega
      go_wp2
      go_loopw [9, 11, 12] (fun u9 u11 i wr => ∃ (j : Nat) (v9 v11 : Value), j ≤ n ∧ i = .int .i64 j ∧ v9 = u9 ∧ v11 = u11 ∧ InO w wr m n k j v7 v8 v9 v11) (fun _ _ i _ => n - (intOf i).toNat)
      case atStart => exact ⟨0, _, _, Nat.zero_le _, rfl, rfl, rfl, hO0⟩
      case round =>
        clear hO0
        obtain ⟨j, v9, v11, hj, rfl, rfl, rfl, hO⟩ := hrel
        by_cases hjl : j < n
        · have hBr := hO.below
          have hs0 := hBr.size
          obtain ⟨O, hOl, hOw, hown, hstep⟩ := hO.own_
          have hstep := Lib.hid hstep
          clear hO hOw
          have q2 : (j : Int) < (n : Int) := by omega
          have hT1 : k * n ≤ 10 * 30 := Nat.mul_le_mul (by omega) (by omega)
          have hT2 : j * m ≤ 30 * 10 := Nat.mul_le_mul (by omega) (by omega)
          obtain ⟨T, hT⟩ : ∃ T, k * n = T := ⟨_, rfl⟩
          obtain ⟨U, hU⟩ : ∃ U, j * m = U := ⟨_, rfl⟩
          have e1 : ((k : Int) * (n : Int)) = (T : Int) := by rw [← hT]; simp
          have e2 : ((j : Int) * (m : Int)) = (U : Int) := by rw [← hU]; simp
          rw [hT] at hT1
          rw [hU] at hT2
          have g1 : IntKind.i64.wrap ((k : Int) * (n : Int)) = (T : Int) := by rw [e1]; exact IntWalk.i64_in _ (by omega)
          have g2 : IntKind.i64.wrap ((j : Int) * (m : Int)) = (U : Int) := by rw [e2]; exact IntWalk.i64_in _ (by omega)
          have HP := Lib.hid (show (U : Int) + (k : Int) = ((j * m + k : Nat) : Int) by rw [hU]; omega)
          have HL := Lib.hid (show (pwK m n k ++ mk (fun i => ((i * m + k : Nat) : Int)) j).length ≤ 330 by rw [List.length_append, pwK_length, mk_length, hT]; omega)
          have C1 := bnth_any A0 c0 z0 (T + j) wr (h0.step hBr) k0 (by omega)
          rw [show ((T + j : Nat) : Int) = (T : Int) + (j : Int) by omega] at C1
          obtain ⟨X, hX⟩ : ∃ X, nth z0 ((T + j) % z0.length) = X := ⟨_, rfl⟩
          rw [hX] at C1
          obtain ⟨z, hz⟩ : ∃ z, IntKind.i64.wrap (X + (k : Int)) = z := ⟨_, rfl⟩
          have C2 := bword_any z wr
          have hy := wrap32_word z
          obtain ⟨yy, hyy⟩ : ∃ yy, wrap32 z = yy := ⟨_, rfl⟩
          rw [hyy] at C2 hy
          have C1 := Lib.hid C1
          have C2 := Lib.hid C2
          have HY := Lib.hid hy
          clear hX hyy hy hT hU e1 e2
          go_wp2_with fail
          refine C1.out.mono ?_
          rintro e w' ⟨rfl, rfl⟩
          go_wp2_with fail
          refine C2.out.mono ?_
          rintro e w' ⟨rfl, rfl⟩
          go_wp2_with (first | (at_builtin; refine wpList_append_own_at _ rfl _ _ 22 rfl w.heap.size 3 i0 (.int .i64 0) 1 8 Tryd.underlying22 hi0 hz00 hz10 hz20 rfl (by decide) _ _ _ rfl (hown.alloc _) ⟨wr.heap.size, 0, none⟩ 1 1 [.int .i64 yy] rfl rfl (cell_one_new _ _ _) (by simp [Value.oneCell']) (by unfold maxLen; omega) (by omega) (by simp; omega) ?_; intro v' w2 hown' hgrow hni hd; obtain ⟨P, hP, hp, hs2, hstep2⟩ := hstep.out _ v' w2 yy HY.out (OwnI.snoc hown') hgrow hni hd; rw [← hP] at HL; have HP2 := Lib.hid hP; have HS2 := Lib.hid hstep2; have hPl : P.length ≤ 330 := HL.out; clear hP hstep2 hni hd hgrow hown') | (at_builtin; refine wpList_append_own_at _ rfl _ _ 22 rfl w.heap.size 3 i0 (.int .i64 0) 1 8 Tryd.underlying22 hi0 hz00 hz10 hz20 rfl (by decide) _ _ _ rfl (hp.alloc _) ⟨w2.heap.size, 0, none⟩ 1 1 [.int .i64 ((U : Int) + (k : Int))] rfl rfl (cell_one_new _ _ _) (by simp [Value.oneCell']) (by unfold maxLen; omega) (by omega) (by simp; omega) ?_; intro v'' w3 hown'' hgrow2 _ hd2))
          have hF := HS2.out _ v'' w3 (by rw [← HP.out]; exact OwnI.snoc hown'') hgrow2 hd2
          clear hown'' hgrow2 hd2
          go_roundw
          case rel => exact ⟨j + 1, _, _, by omega, by go_num, rfl, rfl, hF⟩
          case measure => simp [intOf]; omega
        · obtain rfl : j = n := by omega
          have hBr := hO.below
          have hs0 := hBr.size
          obtain ⟨hs, O, F, g, c, hhs, hOl, hFl, e11, hcc, hrow, hstep⟩ := hO.end_
          subst e11
          have hT1 : k * j ≤ 10 * 30 := Nat.mul_le_mul (by omega) (by omega)
          have hstep := Lib.hid hstep
          have HO := Lib.hid hOl
          have HH := Lib.hid hhs
          have HFl := Lib.hid hFl
          clear hO hOl hhs hFl
          go_wp2_with (first | (at_builtin; refine wpList_append_own_at _ rfl _ _ 25 rfl w.heap.size 22 i1 (.slice none 0 0) 1 24 Tryd.underlying25 hi1 hz01 hz11 hz21 rfl (by decide) _ _ _ rfl (hrow.alloc _) ⟨wr.heap.size, 0, none⟩ 1 1 [.slice (some ⟨g, 0, none⟩) j c] rfl rfl (cell_one_new _ _ _) (by simp [Value.oneCell']) (by unfold maxLen; omega) (by omega) (by simp; omega) ?_; intro v' w2 hown' hgrow hni hd; obtain ⟨ha, hs2, hn, hstep2⟩ := hstep.out _ v' w2 hown' hgrow hd; have HS2 := Lib.hid hstep2; have HN := Lib.hid hn; clear hstep2 hn hni hd hgrow hown') | (at_builtin; refine wpList_append_own_at _ rfl _ _ 22 rfl w.heap.size 3 i0 (.int .i64 0) 1 8 Tryd.underlying22 hi0 hz00 hz10 hz20 rfl (by decide) _ _ _ rfl ha ⟨g, 0, none⟩ j c (O.map (Value.int .i64)) rfl (by rw [List.length_map, HO.out]; omega) HN.out (by intro u hu; obtain ⟨q, _, rfl⟩ := List.mem_map.1 hu; rfl) (by have := HFl.out; unfold maxLen; omega) (by have := HFl.out; omega) (by omega) ?_; intro v'' w3 hown'' hgrow2 _ hd2))
          have hF := HS2.out v'' w3 (by have := OwnI.apps hown''; exact this) hgrow2 hd2
          clear hown'' hgrow2 hd2
          go_roundw
          case rel => exact ⟨k + 1, _, _, _, by omega, by go_num, rfl, rfl, rfl, hF⟩
          case measure => simp [intOf]; omega
    · obtain rfl : k = m := by omega
      have hBB := hW.below
      obtain ⟨L, F, P, R, A7, A8, A9, c7, c8, c9, rfl, rfl, rfl, s8, s9, s7, l8, l9, hR, hL, hWe, hPu⟩ := hW.end_ hm1 hm10 (by omega)
      have hT1 : k * n ≤ 10 * 30 := Nat.mul_le_mul (by omega) (by omega)
      have hrl : IntKind.i64.wrap ((k : Int) * (n : Int)) = (R.length : Int) := by
        have e1 : ((k : Int) * (n : Int)) = ((k * n : Nat) : Int) := by simp
        rw [e1, hR]; exact IntWalk.i64_in _ (by omega)
      have lR : R.length ≤ 9223372036854775807 := by omega
      have HWe := Lib.hid hWe
      have HPu := Lib.hid hPu
      clear hWe hPu hR hL hW
      go_wp2_with fail
      refine (HWe.out _ _ _ s7).mono ?_
      rintro e w1 ⟨Ax, cx, rfl, hcx, hx, hB⟩
      have s8 := s8.step hB
      have s9 := s9.step hB
      have hBB := hBB.trans (hB.mono hBB.size)
      go_wp2_with fail
      refine (HPu.out _ _ _ _ _ s8 s9 l8 l9).mono ?_
      rintro e w2 ⟨Ay, cy, rfl, hcy, hy, hB⟩
      have hx := hx.step hB
      have hBB := hBB.trans (hB.mono hBB.size)
      go_wp2_with fail
      refine (eq_self _ _ _ _ _ _ hx hy lR).mono ?_
      rintro e w3 ⟨rfl, hB⟩
      have hBB := hBB.trans (hB.mono hBB.size)
      clear hx hy s7 s8 s9
      go_wp2_with fail
      refine (done_any _ (hI.below hBB)).mono ?_
      rintro e w4 ⟨rfl, hB⟩
      have hBB := hBB.trans (hB.mono hBB.size)
      go_wp2
      go_ret
      exact ⟨rfl, hBB⟩

/-! ### the row and the card -/
set_option maxRecDepth 100000
theorem own : ownKnob Tryd.prog.godebug = none := by kernel_rfl
theorem door_met (os : Os) (args : Array Value) : laidMetH Tryd.prog Rows.primWovenRow.laid ((World.doorLaid Tryd.prog 61 os).forCall (fun _ _ => 0) ⟨#[], args, []⟩).memory :=
  laidMetH_of_parts3 (fuel := 8) (laidMet_of_run' 8 (by kernel_rfl) (by kernel_rfl)) (by kernel_rfl) (by kernel_rfl)
theorem lifted (os : Os) (started : os.Started) (H : Type) (enc : TypeId × Value → H) :
    ReturnsInHanded {} Tryd.checked os 3 .any (fun w args => (Rows.primWovenSpec.pre enc Tryd.prog Tryd.f3 [] false w args ∧ laidMetH Tryd.prog Rows.primWovenRow.laid w) ∧ sizedMet enc Tryd.prog Tryd.f3 (OpenSpec.ofChange Rows.primWovenSpec) false w args)
      (Rows.primWovenSpec.post enc Tryd.prog Tryd.f3 false true false false) := by
  refine returnsInHanded_of_change_and (C := Tryd.checked) (X := fun w _ => laidMetH Tryd.prog Rows.primWovenRow.laid w) (fun _ _ _ hh h => h.of_heap hh) own started (by kernel_rfl) Tryd.func3
    (ChangeSpec.witness_shaped (enc := enc) (C := Tryd.checked) (os := os) (X := fun w _ => laidMetH Tryd.prog Rows.primWovenRow.laid w) false (World.doorLaid Tryd.prog 61 os) #[.slice none 0 0, .agg #[.int .i64 0, .int .i64 0]] 8 rfl (World.shaped_of_RefB (by kernel_rfl) (by kernel_rfl)) (by kernel_rfl) (by kernel_rfl) (by kernel_rfl) (door_met os _)) ?_
  intro W base args ds gs before hval0 hW _ _ hL _
  have hval : ∀ (j : Nat) t v, Tryd.f3.params[j]? = some t → args[j]? = some v → Value.okWide Tryd.prog W .any base t v := hval0
  have hW' := hW
  obtain ⟨p, q, hA0, hV, rfl, hfz, hnd⟩ := hW
  have hA : DataW.TrodAll enc Tryd.prog W 0 (fun _ => true) true Tryd.f3.params.toList args.toList ds p := hA0
  rw [Tryd.params3] at hA hval
  obtain ⟨v0, vs0, d0, ds0, p0, q0, hargs, rfl, rfl, h0, r0⟩ := trodAll_cons hA
  obtain ⟨v1, vs1, d1, ds1, p1, q1, rfl, rfl, rfl, h1, r1⟩ := trodAll_cons r0
  obtain ⟨rfl, rfl, rfl⟩ := trodAll_nil r1
  obtain rfl : args = #[v0, v1] := by cases args; simp_all
  obtain ⟨rfl, rfl⟩ := trodVars_none hV
  clear hA0 hval0
  simp only [List.append_nil] at hW'
  have hlt0 : ∀ x ∈ p0, x.block < W.heap.size := fun x hx => by simpa using hW'.lt x (by simp [hx])
  have hg0 : ∀ (W' : World), Below W.heap.size W W' → DataW.Trod enc Tryd.prog W' 0 (fun b => decide (b < W.heap.size)) true 22 v0 d0 p0 :=
    fun W' hn => Below.trod Tryd.laidOut (by kernel_rfl) (of_decide_eq_true (by kernel_rfl)) h0 hn hlt0
  obtain ⟨A0, c0, z0, rfl, hle0, hmx0, hS0, hR0⟩ := open_sl (hval 0 22 v0 rfl rfl) h0 hlt0
  obtain ⟨x10, x11, rfl, rfl, rfl, w10, w11⟩ := open_arr2 (hval 1 23 v1 rfl rfl) h1
  refine (walk A0 c0 z0 x10 x11 W (of_laid hL) hS0 hle0 (by unfold Ok; omega)).mono fun e W' ⟨he, hB⟩ => ?_
  subst he
  exact ⟨_, rfl, _, _, _, [], _, [], hW', trodAll_cons_mk (shut_bool Tryd.underlying4 _) trodAll_mk0, trodAll_cons_mk (hg0 _ hB) (trodAll_cons_mk (shut_arr2 w10 w11) trodAll_mk0), rfl, hB.frame _, fun h => by cases h⟩
theorem holds : Rows.PrimWovenSaid :=
  OpenClaim.holds_of_wide 3 Tryd.f3 rfl rfl rfl rfl rfl rfl rfl ⟨rfl, rfl, rfl, rfl, rfl⟩ rfl rfl rfl rfl rfl (by kernel_rfl) Tryd.func3 (by kernel_rfl)
    (of_decide_eq_true (by kernel_rfl)) (by unfold Func.isWrapper; first | (rw [if_pos (by decide +kernel)]; kernel_rfl) | (rw [if_neg (by decide +kernel)]; exact ⟨rfl, rfl⟩))
    (fun os started H enc _ => lifted os started H enc)
theorem proved : Rows.PrimWovenCardSaid :=
  Claim7.holds_tied_plain_at .later [] [.data] true (true, "165e170aa6ce182620764f5d03f9346384cc021ccbd43512c2f1c96f23b5a8e5") false
    holds (fun _ h => by cases h) (by kernel_rfl) (fun _ h => by cases h) primWoven_row_tie rfl ⟨rfl, rfl⟩ (by kernel_rfl) rfl
    (fun f fn hf hfn => by
      obtain rfl : f = 3 := Option.some.inj ((show Tryd.prog.funcNamed "sheafworks/sheafworkslaw04.PrimWoven" = some 3 by kernel_rfl).symm.trans hf) |>.symm
      obtain rfl : fn = Tryd.f3 := (Option.some.inj (Tryd.func3.symm.trans hfn)).symm
      exact ⟨by kernel_rfl, fun j t ht => by
        rw [Tryd.params3] at ht
        have hm : t ∈ [22, 23] := by
          have := Array.mem_of_getElem? ht
          simpa using this
        have hall : ([22, 23].all fun u => !Tryd.prog.wantsStandIn u) = true := by kernel_rfl
        exact (show Tryd.prog.wantsStandIn t = false by simpa using List.all_eq_true.1 hall t hm)⟩)
    (by kernel_rfl)
#print axioms proved
end Go.Proofs.YtecpanppnljkhaaDoor.primWoven
