/- Walks of scan: down. -/
import Derived.Test.YtecpanppnljkhaaGreatDoorEv
import Derived.Test.YtecpanppnljkhaaGreatDoorEo
import Derived.WalkSmall
namespace Go.Proofs.YtecpanppnljkhaaGreatDoor
set_option linter.unusedVariables false
set_option maxRecDepth 100000
open Go.RowKit Go.Shelf
attribute [local go_sem] Oper.semAt_some
set_option maxHeartbeats 4000000 in
theorem down_any (op x : Int) (g d : Nat) (A : Option Addr) (c : Nat) (L : List (List Int)) (w : World) (hg : Blk w g 3 #[.int .i64 op]) (h : Sll w A L) (hL : L.length = d + 1) (hc : d + 1 ≤ c) (hd : d ≤ 20) (hlv : ∀ j, j ≤ d → (nthL L j).length = 2 ^ (d - j)) :
    Calls Tryz.prog 61 #[.agg #[.int .i64 x, .func (.func 87) #[] #[.pointer (some ⟨g, 0, none⟩)]], .slice A (d + 1) c] w (RetS w (dnL (doN op) x L d)) := by
  obtain ⟨i0, hi, hz0, hz1, hz2⟩ := info_parts int_info
  obtain ⟨bA, oA, rfl, hbA, hcs⟩ := h (by omega)
  have hx : ∀ j, ∃ v : Value, j < d + 1 → w.cell? ⟨bA, oA + j, none⟩ = some v ∧ ∃ A' c', v = .slice A' (nthL L j).length c' ∧ (nthL L j).length ≤ c' ∧ Sl w A' (nthL L j) := fun j => by
    by_cases hj : j < d + 1
    · obtain ⟨A', c', h1, h2, h3⟩ := hcs j (by omega)
      exact ⟨_, fun _ => ⟨h1, A', c', rfl, h2, h3⟩⟩
    · exact ⟨undef, fun e => absurd e hj⟩
  obtain ⟨V, hV⟩ := Classical.axiomOfChoice hx
  refine (callsIn_wide (n := 8)).1 ?_
  refine callsIn_of_wp_marks Tryz.func61 rfl trivial ?_ rfl
  simp only [Tryz.ntmps61, List.size_toArray, List.length_cons, List.length_nil, Nat.reduceAdd, Nat.reduceSub, Array.replicate_succ, Array.replicate_zero, List.push_toArray, List.append_toArray, List.nil_append, List.cons_append]
  have b0 := (((Blk.new w 58 #[.int .i64 x, .func (.func 87) #[] #[.pointer (some ⟨g, 0, none⟩)]]).alloc (.cells #[.int .i64 x] 3)).alloc (.cells #[.slice (some ⟨w.heap.size + 1, 0, none⟩) 1 1] 22)).alloc (.cells #[.slice (some ⟨bA, oA, none⟩) d c] 33)
  have hs := fun W => slices_to (some ⟨bA, oA, none⟩) (d + 1) c d (by omega) hc (by omega) W
  have k1 : ((d + 1 : Nat) : Int) - 1 = (d : Int) := by omega
  obtain ⟨d1, hd1⟩ : ∃ d1, d + 1 = d1 := ⟨_, rfl⟩
  rw [hd1] at hs k1 ⊢
  gi_wp2_with (refine ⟨trivial, ?_⟩; gi_at_call 79; refine (callsIn_wide.2 (backward_any _ _ _ _)).mono ?_; rintro e w' ⟨rfl, rfl⟩)
  have b1 := ((Blk.new (w.alloc (.cells #[.int .i64 x, .func (.func 87) #[] #[.pointer (some ⟨g, 0, none⟩)]] 58)) 3 #[.int .i64 x]).alloc (.cells #[.slice (some ⟨w.heap.size + 1, 0, none⟩) 1 1] 22)).alloc (.cells #[.slice (some ⟨bA, oA, none⟩) d c] 33)
  have b2 := (Blk.new ((w.alloc (.cells #[.int .i64 x, .func (.func 87) #[] #[.pointer (some ⟨g, 0, none⟩)]] 58)).alloc (.cells #[.int .i64 x] 3)) 22 #[.slice (some ⟨w.heap.size + 1, 0, none⟩) 1 1]).alloc (.cells #[.slice (some ⟨bA, oA, none⟩) d c] 33)
  have b3 := Blk.new (((w.alloc (.cells #[.int .i64 x, .func (.func 87) #[] #[.pointer (some ⟨g, 0, none⟩)]] 58)).alloc (.cells #[.int .i64 x] 3)).alloc (.cells #[.slice (some ⟨w.heap.size + 1, 0, none⟩) 1 1] 22)) 33 #[.slice (some ⟨bA, oA, none⟩) d c]
  simp only [World.size_alloc] at b1 b2 b3
  have hB0 : Below w.heap.size w ((((w.alloc (.cells #[.int .i64 x, .func (.func 87) #[] #[.pointer (some ⟨g, 0, none⟩)]] 58)).alloc (.cells #[.int .i64 x] 3)).alloc (.cells #[.slice (some ⟨w.heap.size + 1, 0, none⟩) 1 1] 22)).alloc (.cells #[.slice (some ⟨bA, oA, none⟩) d c] 33)) := (((((Below.refl _ _).alloc (Nat.le_refl _) _).alloc (by simp) _).alloc (by simp; omega) _).alloc (by simp; omega) _)
  have hsz : w.heap.size + 4 ≤ (((((w.alloc (.cells #[.int .i64 x, .func (.func 87) #[] #[.pointer (some ⟨g, 0, none⟩)]] 58)).alloc (.cells #[.int .i64 x] 3)).alloc (.cells #[.slice (some ⟨w.heap.size + 1, 0, none⟩) 1 1] 22)).alloc (.cells #[.slice (some ⟨bA, oA, none⟩) d c] 33))).heap.size := by simp
  obtain ⟨W0, hW0⟩ : ∃ W0, ((((w.alloc (.cells #[.int .i64 x, .func (.func 87) #[] #[.pointer (some ⟨g, 0, none⟩)]] 58)).alloc (.cells #[.int .i64 x] 3)).alloc (.cells #[.slice (some ⟨w.heap.size + 1, 0, none⟩) 1 1] 22)).alloc (.cells #[.slice (some ⟨bA, oA, none⟩) d c] 33)) = W0 := ⟨_, rfl⟩
  rw [hW0] at b0 b1 b2 b3 hB0 hsz ⊢
  clear hW0
  have o1 : OwnI W0 (w.heap.size + 1) (.slice (some ⟨w.heap.size + 1, 0, none⟩) 1 1) [x] := ⟨by simp, .inr ⟨_, 1, _, rfl, Nat.le_refl _, b1, Nat.le_refl _, by simp [maxLen], rfl, rfl⟩⟩
  have hVc : ∀ j, j < d → W0.cell? ⟨bA, oA + j, none⟩ = some (V j) := fun j hj => (hB0.cell (p := ⟨bA, oA + j, none⟩) hbA).trans (hV j (by omega)).1
  refine wpIn_rangeFunc_in rfl (by omega) (gf := 99) (lb := #[.pointer (some ⟨w.heap.size + 1 + 1 + 1, 0, none⟩)]) rfl trivial (enters_of Tryz.func99 (by kernel_rfl) rfl)
    (back_seq (8 - 1) (by omega) (w.heap.size + 1 + 1 + 1) w.heap.size c d (some ⟨bA, oA, none⟩) V (by omega) W0 (by omega) b3 (fun _ => ⟨bA, oA, rfl, hbA, hVc⟩)) kpB_t (kpB_b (by omega) (by omega)) (fun _ => rfl)
    (fun pre X => ∃ v, Blk X (w.heap.size + 1 + 1) 22 #[v] ∧ OwnI X (w.heap.size + 1) v (stF (doN op) x L pre) ∧ Blk X w.heap.size 58 #[.int .i64 x, .func (.func 87) #[] #[.pointer (some ⟨g, 0, none⟩)]] ∧ Below w.heap.size w X ∧ w.heap.size + 4 ≤ X.heap.size)
    (fun _ X Y row hs hg hr => by
      obtain ⟨v, g1, g2, g3, g4, g5⟩ := hs
      exact ⟨v, g1.aside hg hr, g2.aside hg hr, g3.aside hg hr, below_aside g4 (Nat.le_refl _) (by omega) hg hr, Nat.le_trans g5 hg.size⟩)
    ⟨_, b2, o1, b0, hB0, hsz⟩
    (fun x' => ⟨#[.agg #[.int .i64 x, .func (.func 87) #[] #[.pointer (some ⟨g, 0, none⟩)]], .slice (some ⟨bA, oA, none⟩) d1 c, .pointer (some ⟨w.heap.size, 0, none⟩), undef, .slice none 0 0, .pointer (some ⟨w.heap.size + 1 + 1, 0, none⟩), undef, V x'.val, undef, undef, undef, .pointer (some ⟨w.heap.size, 0, none⟩), .int .i64 x, .slice (some ⟨w.heap.size + 1, 0, none⟩) 1 1, .slice (some ⟨bA, oA, none⟩) d1 c, .slice (some ⟨bA, oA, none⟩) d1 c, .int .i64 (d1 : Int), .int .i64 (d : Int), .slice (some ⟨bA, oA, none⟩) d c, .func (.func 99) #[] #[.pointer (some ⟨w.heap.size + 1 + 1 + 1, 0, none⟩)], .int .i64 ((x'.val : Nat) : Int), V x'.val, undef, undef, undef, undef, undef, undef, undef, undef, undef, undef, undef, undef, undef, undef, undef, undef, undef, undef, undef, undef, undef, undef, undef, undef, undef, undef], []⟩)
    ?assign ?body ?done
  case assign =>
    rintro i x' X K hK
    simp only [bkV]
    gi_wp2
    exact hK
  case body =>
    rintro i pre x' post X hx' hl' ⟨r, hr⟩ ⟨v, g1, g2, g3, g4, g5⟩
    have hat := back_at hx'
    obtain ⟨_, Al, cl, hVe, hcl, hsl⟩ := hV x'.val (by omega)
    have hll := hlv x'.val (by omega)
    rw [show d - x'.val = pre.length + 1 by omega, Nat.pow_succ, ← stF_len (doN op) x L pre] at hll
    have hm16 : (stF (doN op) x L pre).length ≤ 1048576 := by
      rw [stF_len]
      have : 2 ^ pre.length ≤ 2 ^ 20 := Nat.pow_le_pow_right (by omega) (by omega)
      omega
    have HSN := Lib.hid (stF_snoc (doN op) x L pre x')
    obtain ⟨lev, hlev⟩ : ∃ lev, nthL L x'.val = lev := ⟨_, rfl⟩
    obtain ⟨st, hst⟩ : ∃ st, stF (doN op) x L pre = st := ⟨_, rfl⟩
    rw [hlev] at hVe hcl hsl hll HSN
    rw [hst] at g2 hll hm16 HSN
    rw [hVe]
    have hc5 := g1.cell 0
    obtain ⟨Av, cv, rfl, hcv, hsv⟩ := g2.form
    simp at hc5
    obtain ⟨m, hm⟩ : ∃ m, st.length = m := ⟨_, rfl⟩
    obtain ⟨M, hM⟩ : ∃ M, lev.length = M := ⟨_, rfl⟩
    have HLn := Lib.hid hM
    have HSn := Lib.hid hm
    rw [hm] at hll hm16 hcv g1 hc5 HSN
    rw [hM] at hll hcl ⊢
    have HM2 := Lib.hid hll
    have hM16 : M ≤ 2097152 := by omega
    clear hst hlev hm hM hx' hll
    gi_wp2_with (first | (gi_at_make; refine wpListIn_make_own _ rfl _ _ 22 rfl X.heap.size 3 i0 (.int .i64 0) 1 Tryz.underlying22 hi hz0 hz1 .i64 .i64 _ M rfl rfl rfl (by rw [hz2]; omega) (by unfold maxLen; omega) (Nat.le_refl _) ?_; intro w2 hown2 hg2; have hz2' := hg2.size; have hB2 : Below X.heap.size X w2 := (Below.refl _ _).grown hg2 (Nat.le_refl _) (fun k e => by cases e); have hc52 := (g1.below hB2 g1.lt).cell 0; simp at hc52) | fail)
    have o2 : OwnI w2 X.heap.size (.slice (some ⟨X.heap.size, 0, none⟩) 0 M) (dsK (doN op) lev st 0) := by have h9 := hown2; unfold OwnI; simpa [dsK] using h9
    gi_loopw [8, 27] (fun vb i wr => ∃ k : Nat, k ≤ m ∧ i = .int .i64 k ∧ OwnI wr X.heap.size vb (dsK (doN op) lev st k) ∧ Below X.heap.size X wr) (fun _ i _ => m - (intOf i).toNat)
    case atStart => exact ⟨0, Nat.zero_le _, rfl, o2, hB2⟩
    case round =>
      clear o2 hB2 hc52 hown2 hg2
      obtain ⟨k, hk, rfl, ob, hBr⟩ := hrel
      have hszr := hBr.size
      by_cases hlt : k < m
      · have r0 := g3.below hBr g3.lt
        have gr := hg.below (g4.trans (hBr.mono g4.size)) hg.lt
        obtain ⟨bs, os, rfl, hbs, hcS⟩ := hsv (by rw [HSn.out]; omega)
        obtain ⟨bl, ol, rfl, hbl, hcL⟩ := (hsl.step g4) (by rw [HLn.out, HM2.out]; omega)
        have cp := (hBr.cell (p := ⟨bs, os + k, none⟩) hbs).trans (hcS k (by rw [HSn.out]; omega))
        have cq := (hBr.cell (p := ⟨bl, ol + 2 * k, none⟩) hbl).trans (hcL (2 * k) (by rw [HLn.out, HM2.out]; omega))
        have HDS : Hid (dsK (doN op) lev st (k + 1) = dsK (doN op) lev st k ++ [nth st k, doN op (nth st k) (nth lev (2 * k))]) := Lib.hid rfl
        have hdl := dsK_len (doN op) lev st k
        obtain ⟨p, hp⟩ : ∃ p, nth st k = p := ⟨_, rfl⟩
        obtain ⟨q, hq⟩ : ∃ q, nth lev (2 * k) = q := ⟨_, rfl⟩
        rw [hp] at cp HDS
        rw [hq] at cq HDS
        obtain ⟨k2, hk2⟩ : ∃ k2, 2 * k = k2 := ⟨_, rfl⟩
        rw [hk2] at cq hdl
        have n1 : (0 : Int) ≤ (k : Int) := by omega
        have n2 : (k : Int) < (m : Int) := by omega
        have n3 : (2 : Int) * (k : Int) = (k2 : Int) := by omega
        have n4 : (0 : Int) ≤ (k2 : Int) := by omega
        have n5 : (k2 : Int) < (M : Int) := by have := HM2.out; omega
        have n6 : IntKind.i64.wrap (k2 : Int) = (k2 : Int) := by unfold IntKind.wrap; simp [IntKind.signed, IntKind.bits]; omega
        have HK2 := Lib.hid hk2
        have hd16 : (dsK (doN op) lev st k).length ≤ 4194304 := by omega
        clear hp hq hk2 hdl hcS hcL
        gi_wp2
        have LT : ∀ W', (Blk W' w.heap.size 58 #[.int .i64 x, .func (.func 87) #[] #[.pointer (some ⟨g, 0, none⟩)]] ∧ W'.cell? ⟨bl, ol + k2, none⟩ = some (.int .i64 q)) → W'.cell? ⟨w.heap.size, 1, none⟩ = some (.func (.func 87) #[] #[.pointer (some ⟨g, 0, none⟩)]) ∧ W'.cell? ⟨bl, ol + k2, none⟩ = some (.int .i64 q) ∧ True := fun W' hW => ⟨hW.1.cell 1, hW.2, trivial⟩
        refine wpIn_region_mix' (fun W' => Blk W' w.heap.size 58 #[.int .i64 x, .func (.func 87) #[] #[.pointer (some ⟨g, 0, none⟩)]] ∧ W'.cell? ⟨bl, ol + k2, none⟩ = some (.int .i64 q)) [false, false, false, false, false, false, false, false, false, false, true, true, true] (fun _ => trivial) rfl (by kernel_rfl) (by kernel_rfl) ⟨r0, cq⟩ ?_
        simp only [mixT, mixH, mixD]
        iterate 10 (refine wpLts_light ?_ (fun W' hW => ?_) ?_; rotate_left; (obtain ⟨q0, q1, q2⟩ := LT W' hW; go_simp; try with_reducible rfl); simp only [Act.put, List.setIfInBounds_toArray, List.set_cons_zero, List.set_cons_succ])
        refine wpLts_heavy (wpLts_heavy (wpLts_heavy (wpLts_nil ?_)))
        refine wpHvs_call 87 #[.int .i64 p, .int .i64 q, .pointer (some ⟨g, 0, none⟩)] (by go_simp) ?_
        refine (CallsIn.inRound i (callsIn_wide.2 (join_any op p q g wr.drew gr.drew))).mono ?_
        rintro e W1 ⟨rfl, hB1⟩
        have hB1r : Below wr.heap.size wr W1 := (Below.refl _ _).drew.trans hB1
        have hs1 := hB1r.size
        have hblr : bl < wr.heap.size := Nat.lt_of_lt_of_le hbl hszr
        have r1 := r0.below hB1r r0.lt
        have cq1 := (hB1r.cell (p := ⟨bl, ol + k2, none⟩) hblr).trans cq
        obtain ⟨rr, hrr⟩ : ∃ rr, doN op p q = rr := ⟨_, rfl⟩
        rw [hrr] at HDS ⊢
        refine ⟨_, rfl, ⟨r1, cq1⟩, ?_⟩
        simp only [Act.put, List.setIfInBounds_toArray, List.set_cons_zero, List.set_cons_succ]
        have hB2r : Below wr.heap.size wr (W1.alloc (.cells #[.int .i64 p, .int .i64 rr] 3)) := hB1r.alloc hs1 _
        have r2 := r1.alloc (.cells #[.int .i64 p, .int .i64 rr] 3)
        have cq2 := (hB2r.cell (p := ⟨bl, ol + k2, none⟩) hblr).trans cq
        refine wpHvs_value (.slice (some ⟨W1.heap.size, 0, none⟩) 2 2) (W1.alloc (.cells #[.int .i64 p, .int .i64 rr] 3)) (by go_simp) ⟨⟨r2, cq2⟩, ?_⟩
        simp only [Act.put, List.setIfInBounds_toArray, List.set_cons_zero, List.set_cons_succ]
        have ob2 : OwnI (W1.alloc (.cells #[.int .i64 p, .int .i64 rr] 3)) X.heap.size u8 (dsK (doN op) lev st k) := ob.below hB2r (Nat.le_refl _)
        have hBX2 : Below X.heap.size X (W1.alloc (.cells #[.int .i64 p, .int .i64 rr] 3)) := hBr.trans (hB2r.mono hszr)
        obtain ⟨v', w9, hr9, ho9, hg9, _, _⟩ := run_append_own_at (P := Tryz.prog) (w := W1.alloc (.cells #[.int .i64 p, .int .i64 rr] 3)) X.heap.size 22 22 3 i0 (.int .i64 0) 1 8 Tryz.underlying22 hi hz0 hz1 hz2 rfl (by decide) u8 (dsK (doN op) lev st k).length ((dsK (doN op) lev st k).map (Value.int .i64)) ob2 ⟨W1.heap.size, 0, none⟩ 2 2 [.int .i64 p, .int .i64 rr] rfl (cell_two_new _ _ _ _) (by simp [Value.oneCell']) (by unfold maxLen; omega) (by omega) hBX2.size
        have ho9' : OwnI w9 X.heap.size v' (dsK (doN op) lev st (k + 1)) := by rw [HDS.out]; exact OwnI.apps (O := [p, rr]) ho9
        have hB9 : Below X.heap.size X w9 := hBX2.grown hg9 hBX2.size (fun b e => (ob2.lt b e).1)
        have r9 := r2.grown hg9 (r2.not_row (by decide) ob2)
        have cq9 : w9.cell? ⟨bl, ol + k2, none⟩ = some (.int .i64 q) := (hB9.cell (p := ⟨bl, ol + k2, none⟩) hbl).trans (by
          have h8 := (hBr.cell (p := ⟨bl, ol + k2, none⟩) hbl)
          rw [h8] at cq
          exact cq)
        refine wpHvs_value v' w9 (exec_append (.tmp 32) (.tmp 43) 22 rfl _ _ rfl rfl v' w9 hr9) ⟨⟨r9, cq9⟩, ?_⟩
        simp only [Act.put, List.setIfInBounds_toArray, List.set_cons_zero, List.set_cons_succ]
        refine wpHvs_nil ?_
        clear hr9 ho9 hg9 ob2 ob
        gi_wp2
        go_roundw
        case rel => exact ⟨k + 1, by omega, by go_num, ho9', hB9⟩
        case measure => simp [intOf]; omega
      · obtain rfl : k = m := by omega
        obtain ⟨A8, c8, ev, hc8, _⟩ := ob.form
        obtain ⟨N8, hN8⟩ : ∃ N8, (dsK (doN op) lev st k).length = N8 := ⟨_, rfl⟩
        rw [hN8] at ev
        subst ev
        have hb1 := g1.below hBr g1.lt
        have cc1 := hb1.cell 0
        have ff1 := hb1.frozen 0
        simp at cc1
        have hne : some (w.heap.size + 1 + 1) ≠ (Value.slice A8 N8 c8).ownBlock := fun e => by have := (ob.lt _ e.symm).1; have := g1.lt; omega
        have ob9 : OwnI (wr.setCell ⟨w.heap.size + 1 + 1, 0, none⟩ (.slice A8 N8 c8)) (w.heap.size + 1) (.slice A8 N8 c8) (stF (doN op) x L (pre ++ [x'])) := by
          rw [HSN.out]
          exact (ob.kept (grownBy_set wr ⟨w.heap.size + 1 + 1, 0, none⟩ _) (.inr (fun e => hne e.symm))).lower (by omega)
        have rf := (g3.below hBr g3.lt).far (p := ⟨w.heap.size + 1 + 1, 0, none⟩) (by show w.heap.size ≠ w.heap.size + 1 + 1; omega) (.slice A8 N8 c8)
        have hBf : Below w.heap.size X (wr.setCell ⟨w.heap.size + 1 + 1, 0, none⟩ (.slice A8 N8 c8)) := (hBr.mono g4.size).setCell (p := ⟨w.heap.size + 1 + 1, 0, none⟩) (by show w.heap.size ≤ w.heap.size + 1 + 1; omega) _
        have hKp : KpB w.heap.size (w.heap.size + 1 + 1 + 1) X (wr.setCell ⟨w.heap.size + 1 + 1, 0, none⟩ (.slice A8 N8 c8)) := ⟨hBf, (Below.heap_setCell wr ⟨w.heap.size + 1 + 1, 0, none⟩ _ _ (by show w.heap.size + 1 + 1 + 1 ≠ w.heap.size + 1 + 1; omega)).trans (hBr.block _ (by omega))⟩
        have hoth : KeepsOthers X (wr.setCell ⟨w.heap.size + 1 + 1, 0, none⟩ (.slice A8 N8 c8)) := (below_others hBr).trans (KeepsOthers.setCell wr ⟨w.heap.size + 1 + 1, 0, none⟩ _)
        have hbs := hb1.set_ 0 (.slice A8 N8 c8)
        have hsz9 : w.heap.size + 4 ≤ (wr.setCell ⟨w.heap.size + 1 + 1, 0, none⟩ (.slice A8 N8 c8)).heap.size := by simp; omega
        clear ob hN8 hc8
        gi_wp2
        exact ⟨hoth.from _, hKp, _, hbs, ob9, rf, g4.trans hBf, hsz9⟩
  case done =>
    rintro D X hD ⟨v, g1, g2, g3, g4, g5⟩ hK
    have g2' := g2.aside (grownBy_putObj' X D (.deferred none)) (B := 0) (fun r e => by cases e; exact ⟨Nat.zero_le _, _, hK, rfl⟩)
    have g4' := below_aside (B := w.heap.size) g4 (Nat.le_refl _) (Nat.le_refl _) (grownBy_putObj' X D (.deferred none)) (fun r e => by cases e; exact ⟨by omega, _, hK, rfl⟩)
    obtain ⟨A3, c3, rfl, hc3, hs3⟩ := g2'.form
    have q1 := g1.cell 0
    simp at q1
    obtain ⟨R, hR⟩ : ∃ R, stF (doN op) x L (List.finRange d).reverse = R := ⟨_, rfl⟩
    rw [hR] at hs3 hc3 q1
    have HR : Hid (dnL (doN op) x L d = R) := Lib.hid hR
    clear hR g1 g2 g2'
    gi_wp2
    refine ⟨by simp, .inl ⟨_, _, rfl, run_takeDeferred hK, ?_⟩⟩
    refine ⟨.slice A3 R.length c3, by simp [results, Tryz.f61, go_sem], ?_⟩
    rw [HR.out]
    exact ⟨A3, c3, rfl, hc3, hs3, g4'⟩
end Go.Proofs.YtecpanppnljkhaaGreatDoor
