/- PrimRepeated: for any two slices of ints that can be read, the law's call returns true, and they read as they did. No condition but the row's own (the listed table holds what the text lays). -/
import Derived.Test.YtchjdhlmpdcibaaDoorVa
import Derived.Test.YtchjdhlmpdcibaaDoorVo
import Derived.Test.YtchjdhlmpdcibaaDoorVl
import Derived.Test.YtchjdhlmpdcibaaDoorVn
import Derived.Test.YtchjdhlmpdcibaaDoorTie
import Derived.Test.YtchjdhlmpdcibaaDoorCards
import Derived.Test.YtchjdhlmpdcibaaDoorTa
import Derived.Test.YtchjdhlmpdcibaaDoorMr
import Derived.Test.YtchjdhlmpdcibaaDoorCh
import Derived.Test.YtchjdhlmpdcibaaDoorRi
namespace Go.Proofs.YtchjdhlmpdcibaaDoor.primRepeated
open Go.ChangeShapes Go.WideShapes Go.ChangeAt Go.RowKit Go.ChangeMaps
set_option linter.unusedVariables false
set_option maxRecDepth 100000 in
set_option maxHeartbeats 40000000 in
theorem walk (A0 : Option Addr) (c0 : Nat) (z0 : List Int) (A1 : Option Addr) (c1 : Nat) (z1 : List Int) (w : World) (hI : Inv w) (h0 : Sl w A0 z0) (hc0 : z0.length ≤ c0) (k0 : Ok z0) (h1 : Sl w A1 z1) (hc1 : z1.length ≤ c1) (k1 : Ok z1) :
    Calls Tryd.prog 9 #[.slice A0 z0.length c0, .slice A1 z1.length c1] w (Good w) := by
  obtain ⟨i0, hi, hz0, hz1, hz2⟩ := info_parts int_info
  have M := repd_of z0 z1
  have W1 : Calls Tryd.prog 44 #[.slice A0 z0.length c0, .int .i64 100] w (RetS w (wlL z0 100)) := lwords_any A0 c0 z0 100 w h0 k0 (by omega)
  obtain ⟨a, ha0⟩ : ∃ a, wlL z0 100 = a := ⟨_, rfl⟩
  rw [ha0] at M W1
  have hfw := M.few
  obtain ⟨cs, hcs0⟩ : ∃ c, svL z1 a.length = c := ⟨_, rfl⟩
  rw [hcs0] at M
  have HCS := Lib.hid hcs0
  have hcl := M.len
  have oa : Ok a := by unfold Ok; omega
  have oc : Ok cs := by unfold Ok; omega
  have ou : Ok (upL a.length) := by unfold Ok; rw [up_len]; omega
  obtain ⟨l1, l2, l3, l4⟩ := M.lens
  have ox : Ok (repL (upL a.length) cs) := by unfold Ok; omega
  have P1 : ∀ W A A' c c', Sl W A a → Sl W A' cs → a.length ≤ c → cs.length ≤ c' → Calls Tryd.prog 34 #[.slice A a.length c, .slice A' cs.length c'] W (RetL W (repL a cs) 0) := fun W A A' c c' h h' hc hc' => by
      have := rep_any A A' c c' a cs W h h' hc hc' oa oc
      rwa [M.rep, orL_ok] at this
  have P2 : ∀ W A A' c c', Sl W A (upL a.length) → Sl W A' cs → a.length ≤ c → cs.length ≤ c' → Calls Tryd.prog 34 #[.slice A a.length c, .slice A' cs.length c'] W (RetL W (repL (upL a.length) cs) 0) := fun W A A' c c' h h' hc hc' => by
      have := rep_any A A' c c' (upL a.length) cs W h h' (by rw [up_len]; exact hc) hc' ou oc
      rw [M.rep2, orL_ok] at this
      rwa [up_len] at this
  have P3 : ∀ W A A' c c', Sl W A a → Sl W A' (repL (upL a.length) cs) → a.length ≤ c → (repL (upL a.length) cs).length ≤ c' → Calls Tryd.prog 30 #[.slice A a.length c, .slice A' (repL (upL a.length) cs).length c'] W (RetL W (repL a cs) 0) := fun W A A' c c' h h' hc hc' => by
      have := gather_any A A' c c' a (repL (upL a.length) cs) W h h' hc hc' oa ox
      rwa [M.gat.1, M.gat.2, orL_ok] at this
  have P4 : ∀ W A c, Sl W A cs → cs.length ≤ c → Calls Tryd.prog 36 #[.slice A cs.length c] W (RetL W (iotL cs) 0) := fun W A c h hc => by
      have := iota_any A c cs W h hc oc
      rwa [M.iot, orL_ok] at this
  have P5 := fun W A c (h : Sl W A cs) => bsum_any A c cs W h (by omega) (fun j hj => by have := M.wc _ (nth_mem cs j hj); unfold isW; omega)
  have U := fun W => upto_any a.length W (by omega)
  have RD := fun i q j hi hq hj => M.read i q j hi hq hj
  have WB := fun (i : Nat) (hi : i < a.length) => M.wc _ (nth_mem cs i (by omega))
  have PS := fun (i : Nat) (hi : i < a.length) => psum_succ cs i (by omega)
  have PB := fun (i : Nat) (hi : i ≤ a.length) => psum_bnd M.wc i (by omega)
  obtain ⟨sm, hsm⟩ : ∃ s, cs.sum = s := ⟨_, rfl⟩
  rw [hsm] at l1 P5
  obtain ⟨r, hr0⟩ : ∃ r, repL a cs = r := ⟨_, rfl⟩
  obtain ⟨ix, hx0⟩ : ∃ r, repL (upL a.length) cs = r := ⟨_, rfl⟩
  obtain ⟨io, ho0⟩ : ∃ r, iotL cs = r := ⟨_, rfl⟩
  rw [hr0] at l1 l2 l3 l4 P1 P3
  simp only [hr0, hx0, ho0] at RD
  rw [hx0] at l2 P2 P3
  rw [ho0] at l3 P4
  have lr : r.length ≤ 9223372036854775807 := by omega
  have hr6 : r.length ≤ 600 := l4
  have hx6 : ix.length ≤ 600 := by omega
  have ho6 : io.length ≤ 600 := by omega
  have hd1 : ((r.length : Int) != sm) = false := by rw [bne_eq_false_iff_eq]; exact l1
  have hd2 : ((ix.length : Int) != (r.length : Int)) = false := by rw [bne_eq_false_iff_eq]; omega
  have hd3 : ((io.length : Int) != (r.length : Int)) = false := by rw [bne_eq_false_iff_eq]; omega
  have HL2 := Lib.hid l2
  have HL3 := Lib.hid l3
  have HCL := Lib.hid hcl
  have hcl1 : cs.length ≤ 100 := by omega
  have W1 := Lib.hid W1
  have P1 := Lib.hid P1
  have P2 := Lib.hid P2
  have P3 := Lib.hid P3
  have P4 := Lib.hid P4
  have P5 := Lib.hid P5
  have U := Lib.hid U
  have RD := Lib.hid RD
  have WB := Lib.hid WB
  have PS := Lib.hid PS
  have PB := Lib.hid PB
  clear M l1 l2 l3 l4 oa oc ou ox ha0 hcs0 hsm hr0 hx0 ho0 hcl
  go_enter Tryd.func9, Tryd.ntmps9
  have hBB : Below w.heap.size w w := Below.refl _ _
  go_wp2_with fail
  refine (W1.out).mono ?_
  rintro e w1 ⟨Aha, cha, rfl, hcha, ha, hB⟩
  have h1 := h1.step hB
  have hBB := hBB.trans (hB.mono hBB.size)
  go_wp2
  go_loopw [6, 7] (fun v i wr => ∃ (k : Nat) (L : List Int), k ≤ a.length ∧ i = .int .i64 k ∧ Hid (L = mk (fun k => nth z1 (k % z1.length) % 7) k) ∧ L.length ≤ k ∧ OwnI wr w1.heap.size v L ∧ Below w1.heap.size w1 wr) (fun _ i _ => a.length - (intOf i).toNat)
  case atStart => exact ⟨0, [], Nat.zero_le _, rfl, Lib.hid rfl, by simp, OwnI.empty w1 _ (Nat.le_refl _), (Below.refl _ _).alloc (Nat.le_refl _) _⟩
  case round =>
    obtain ⟨k, L, hk, rfl, HL, hLl, hown, hBr⟩ := hrel
    by_cases hlt : k < a.length
    · have HS := Lib.hid (mk_succ (fun k => nth z1 (k % z1.length) % 7) k)
      have C2 := bnth_any A1 c1 z1 k wr (h1.step hBr) k1 (by omega)
      obtain ⟨x, hx⟩ : ∃ x, nth z1 (k % z1.length) = x := ⟨_, rfl⟩
      rw [hx] at C2
      simp only [hx] at HS
      have C3 := turn_any x 7 (by omega) (by omega) wr
      obtain ⟨r7, hr7⟩ : ∃ r, x % 7 = r := ⟨_, rfl⟩
      rw [hr7] at C3 HS
      have C2 := Lib.hid C2
      have C3 := Lib.hid C3
      clear hx hr7
      go_wp2_with (first | (go_at_call 50; refine C2.out.mono ?_; rintro e w' ⟨rfl, rfl⟩) | (go_at_call 48; refine C3.out.mono ?_; rintro e w' ⟨rfl, rfl⟩) | (at_builtin; refine wpList_append_own _ rfl _ _ 22 rfl w1.heap.size 3 i0 (.int .i64 0) 1 8 Tryd.underlying22 hi hz0 hz1 hz2 rfl (by decide) _ _ _ rfl (hown.alloc _) ⟨wr.heap.size, 0, none⟩ 1 1 [.int .i64 r7] rfl rfl (cell_one_new _ _ _) (by simp [Value.oneCell']) (by unfold maxLen; omega) (by omega) (by have := hBr.size; simp; omega) ?_; intro v' w2 hown' hgrow _; have hB2 := below_append hBr hBr.size hown hgrow))
      have hown2 := OwnI.snoc hown'
      clear hown' hgrow
      go_roundw
      case rel => exact ⟨k + 1, _, by omega, by go_num, Lib.hid (by rw [HS.out, ← HL.out]), by simp; omega, hown2, hB2⟩
      case measure => simp [intOf]; omega
    · obtain rfl : k = a.length := by omega
      have HE : L = cs := by rw [HL.out, ← HCS.out]; rfl
      subst HE
      obtain ⟨Ac, cc, rfl, hcc, hc⟩ := hown.form
      have ha := ha.step hBr
      have hBB := hBB.trans (hBr.mono hBB.size)
      have hsB := hBr.size
      clear hlt hk HL
      go_wp2_with fail
      refine (P1.out _ _ _ _ _ ha hc hcha hcc).mono ?_
      rintro e w2 ⟨Ahr, chr, rfl, hchr, hr, hB⟩
      have ha := ha.step hB
      have hc := hc.step hB
      have hBB := hBB.trans (hB.mono hBB.size)
      go_wp2_with fail
      refine (U.out _).mono ?_
      rintro e w3 ⟨Au, cu, rfl, hcu, _, hu, hB⟩
      have ha := ha.step hB
      have hc := hc.step hB
      have hr := hr.step hB
      have hBB := hBB.trans (hB.mono hBB.size)
      go_wp2_with fail
      refine (P2.out _ _ _ _ _ hu hc hcu hcc).mono ?_
      rintro e w4 ⟨Ahx, chx, rfl, hchx, hx, hB⟩
      have ha := ha.step hB
      have hc := hc.step hB
      have hr := hr.step hB
      have hu := hu.step hB
      have hBB := hBB.trans (hB.mono hBB.size)
      clear hu
      go_wp2_with fail
      refine (P3.out _ _ _ _ _ ha hx hcha hchx).mono ?_
      rintro e w5 ⟨Ahg, chg, rfl, hchg, hg, hB⟩
      have ha := ha.step hB
      have hc := hc.step hB
      have hr := hr.step hB
      have hx := hx.step hB
      have hBB := hBB.trans (hB.mono hBB.size)
      go_wp2_with fail
      refine (P4.out _ _ _ hc hcc).mono ?_
      rintro e w6 ⟨Aho, cho, rfl, hcho, ho, hB⟩
      have ha := ha.step hB
      have hc := hc.step hB
      have hr := hr.step hB
      have hx := hx.step hB
      have hg := hg.step hB
      have hBB := hBB.trans (hB.mono hBB.size)
      go_wp2_with fail
      refine (eq_self _ _ _ _ _ _ hr hg lr).mono ?_
      rintro e w7 ⟨rfl, hB⟩
      have ha := ha.step hB
      have hc := hc.step hB
      have hr := hr.step hB
      have hx := hx.step hB
      have hg := hg.step hB
      have ho := ho.step hB
      have hBB := hBB.trans (hB.mono hBB.size)
      clear hg
      go_wp2_with fail
      refine (P5.out _ _ _ hc).mono ?_
      rintro e w' ⟨rfl, rfl⟩
      go_wp2
      go_loopw [16, 17] (fun t i wr => ∃ (k q : Nat), k ≤ a.length ∧ i = .int .i64 k ∧ t = .int .i64 q ∧ Hid ((q : Int) = psum L k) ∧ q ≤ 600 ∧ Below w7.heap.size w7 wr) (fun _ i _ => a.length - (intOf i).toNat)
      case atStart => exact ⟨0, 0, Nat.zero_le _, rfl, rfl, Lib.hid (by rw [psum_zero]; rfl), by omega, Below.refl _ _⟩
      case round =>
        obtain ⟨k, q, hk, rfl, rfl, HQ, hq6, hBr⟩ := hrel
        by_cases hlt : k < a.length
        · have hck := WB.out k hlt
          have hps := PS.out k hlt
          have hpb := PB.out (k + 1) hlt
          rw [← HQ.out] at hps
          obtain ⟨N, hN⟩ : ∃ N : Nat, nth L k = (N : Int) := ⟨(nth L k).toNat, by omega⟩
          have HRD := Lib.hid (fun (j : Nat) (hj : j < N) => RD.out k q j hlt HQ.out (by rw [hN]; omega))
          rw [hN] at hps
          have HPS := Lib.hid hps
          have hqN : q + N ≤ 600 := by omega
          have HN := Lib.hid hN
          clear hck hps hpb hN
          obtain ⟨wo, hwo⟩ : ∃ wo : World, wo = wr := ⟨_, rfl⟩
          subst hwo
          go_wp2
          go_loopw [16, 18] (fun t j wr => ∃ jn : Nat, jn ≤ N ∧ j = .int .i64 jn ∧ t = .int .i64 ((q + jn : Nat) : Int) ∧ Below w7.heap.size w7 wr) (fun _ j _ => N - (intOf j).toNat)
          case atStart => exact ⟨0, Nat.zero_le _, rfl, rfl, hBr⟩
          case round =>
            clear hBr
            obtain ⟨jn, hj, rfl, rfl, hBr⟩ := hrel
            obtain ⟨bc, oc, rfl, hbc, hcc1⟩ := (hc.step hBr).at_ (show k < L.length by have := HCL.out; omega)
            rw [HN.out] at hcc1
            have q1 : (0 : Int) ≤ (k : Int) := by omega
            have q2 : (k : Int) < (L.length : Int) := by have := HCL.out; omega
            have q3 : (k : Int) < (a.length : Int) := by omega
            by_cases hjl : jn < N
            · obtain ⟨e1, e2, e3, e4⟩ := HRD.out jn hjl
              obtain ⟨s, hs⟩ : ∃ s, q + jn = s := ⟨_, rfl⟩
              rw [hs] at e1 e2 e3 e4
              rw [hs]
              obtain ⟨bx, ox, rfl, hbx, hcx⟩ := (hx.step hBr).at_ (show s < ix.length by have := HL2.out; omega)
              obtain ⟨bo, oo, rfl, hbo, hco⟩ := (ho.step hBr).at_ (show s < io.length by have := HL3.out; omega)
              obtain ⟨br, or_, rfl, hbr, hcr⟩ := (hr.step hBr).at_ e4
              obtain ⟨ba, oa, rfl, hba, hca⟩ := (ha.step hBr).at_ hlt
              rw [e2] at hcx
              rw [e3] at hco
              rw [e1] at hcr
              obtain ⟨x, hxx⟩ : ∃ x, nth a k = x := ⟨_, rfl⟩
              rw [hxx] at hcr hca
              have HS := Lib.hid hs
              have q4 : (0 : Int) ≤ (s : Int) := by omega
              have q5 : (s : Int) < (ix.length : Int) := by have := HL2.out; omega
              have q6 : (s : Int) < (io.length : Int) := by have := HL3.out; omega
              have q7 : (s : Int) < (r.length : Int) := by omega
              have hs6 : s ≤ 600 := by omega
              clear e1 e2 e3 e4 hs hxx
              go_wp2
              go_quiet (fail)
              go_wp2
              go_roundw
              case rel => exact ⟨jn + 1, by omega, by go_num, by rw [show q + (jn + 1) = s + 1 by have := HS.out; omega]; go_num, below_drewN hBr _⟩
              case measure => simp [intOf]; omega
            · obtain rfl : jn = N := by omega
              go_wp2
              go_roundw
              case rel => exact ⟨k + 1, q + jn, by omega, by go_num, rfl, Lib.hid (by rw [HPS.out]; simp), by omega, hBr⟩
              case measure => simp [intOf]; omega
        · obtain rfl : k = a.length := by omega
          have hBB := hBB.trans (hBr.mono hBB.size)
          go_wp2_with fail
          refine (done_any _ (hI.below hBB)).mono ?_
          rintro e w8 ⟨rfl, hB⟩
          have hBB := hBB.trans (hB.mono hBB.size)
          go_wp2
          go_ret
          exact ⟨rfl, hBB⟩

/-! ### the row and the card -/
theorem own : ownKnob Tryd.prog.godebug = none := by kernel_rfl
theorem door_met (os : Os) (args : Array Value) : laidMetH Tryd.prog Rows.primRepeatedRow.laid ((World.doorLaid Tryd.prog 61 os).forCall (fun _ _ => 0) ⟨#[], args, []⟩).memory :=
  laidMetH_of_parts3 (fuel := 8) (laidMet_of_run' 8 (by kernel_rfl) (by kernel_rfl)) (by kernel_rfl) (by kernel_rfl)
set_option maxRecDepth 100000 in
theorem lifted (os : Os) (started : os.Started) (H : Type) (enc : TypeId × Value → H) :
    ReturnsInHanded {} Tryd.checked os 9 .any (fun w args => (Rows.primRepeatedSpec.pre enc Tryd.prog Tryd.f9 [] false w args ∧ laidMetH Tryd.prog Rows.primRepeatedRow.laid w) ∧ sizedMet enc Tryd.prog Tryd.f9 (OpenSpec.ofChange Rows.primRepeatedSpec) false w args)
      (Rows.primRepeatedSpec.post enc Tryd.prog Tryd.f9 false true false false) := by
  refine returnsInHanded_of_change_and (C := Tryd.checked) (X := fun w _ => laidMetH Tryd.prog Rows.primRepeatedRow.laid w) (fun _ _ _ hh h => h.of_heap hh) own started (by kernel_rfl) Tryd.func9
    (ChangeSpec.witness_shaped (enc := enc) (C := Tryd.checked) (os := os) (X := fun w _ => laidMetH Tryd.prog Rows.primRepeatedRow.laid w) false (World.doorLaid Tryd.prog 61 os) #[.slice none 0 0, .slice none 0 0] 8 rfl (World.shaped_of_RefB (by kernel_rfl) (by kernel_rfl)) (by kernel_rfl) (by kernel_rfl) (by kernel_rfl) (door_met os _)) ?_
  intro W base args ds gs before hval0 hW _ _ hL _
  have hval : ∀ (j : Nat) t v, Tryd.f9.params[j]? = some t → args[j]? = some v → Value.okWide Tryd.prog W .any base t v := hval0
  have hW' := hW
  obtain ⟨p, q, hA0, hV, rfl, hfz, hnd⟩ := hW
  have hA : DataW.TrodAll enc Tryd.prog W 0 (fun _ => true) true Tryd.f9.params.toList args.toList ds p := hA0
  rw [Tryd.params9] at hA hval
  obtain ⟨v0, vs0, d0, ds0, p0, q0, hargs, rfl, rfl, h0, r0⟩ := trodAll_cons hA
  obtain ⟨v1, vs1, d1, ds1, p1, q1, rfl, rfl, rfl, h1, r1⟩ := trodAll_cons r0
  obtain ⟨rfl, rfl, rfl⟩ := trodAll_nil r1
  obtain rfl : args = #[v0, v1] := by cases args; simp_all
  obtain ⟨rfl, rfl⟩ := trodVars_none hV
  clear hA0 hval0
  simp only [List.append_nil] at hW'
  have hlt0 : ∀ x ∈ p0, x.block < W.heap.size := fun x hx => by simpa using hW'.lt x (by simp [hx])
  have hg0 : ∀ (W' : World), Below W.heap.size W W' → DataW.Trod enc Tryd.prog W' 0 (fun b => decide (b < W.heap.size)) true 22 v0 d0 p0 :=
    fun W' hn => Below.trod Tryd.laidOut (by kernel_rfl) (of_decide_eq_true (by kernel_rfl)) h0 hn hlt0
  obtain ⟨A0, c0, z0, rfl, hle0, hmx0, hS0, hR0⟩ := open_sl (hval 0 22 v0 rfl rfl) h0 hlt0
  have hlt1 : ∀ x ∈ p1, x.block < W.heap.size := fun x hx => by simpa using hW'.lt x (by simp [hx])
  have hg1 : ∀ (W' : World), Below W.heap.size W W' → DataW.Trod enc Tryd.prog W' 0 (fun b => decide (b < W.heap.size)) true 22 v1 d1 p1 :=
    fun W' hn => Below.trod Tryd.laidOut (by kernel_rfl) (of_decide_eq_true (by kernel_rfl)) h1 hn hlt1
  obtain ⟨A1, c1, z1, rfl, hle1, hmx1, hS1, hR1⟩ := open_sl (hval 1 22 v1 rfl rfl) h1 hlt1
  refine (walk A0 c0 z0 A1 c1 z1 W (of_laid hL) hS0 hle0 (by unfold Ok; omega) hS1 hle1 (by unfold Ok; omega)).mono fun e W' ⟨he, hB⟩ => ?_
  subst he
  exact ⟨_, rfl, _, _, _, [], _, [], hW', trodAll_cons_mk (shut_bool Tryd.underlying4 _) trodAll_mk0, trodAll_cons_mk (hg0 _ hB) (trodAll_cons_mk (hg1 _ hB) trodAll_mk0), rfl, hB.frame _, fun h => by cases h⟩
theorem holds : Rows.PrimRepeatedSaid :=
  OpenClaim.holds_of_wide 9 Tryd.f9 rfl rfl rfl rfl rfl rfl rfl ⟨rfl, rfl, rfl, rfl, rfl⟩ rfl rfl rfl rfl rfl (by kernel_rfl) Tryd.func9 (by kernel_rfl)
    (of_decide_eq_true (by kernel_rfl)) (by unfold Func.isWrapper; first | (rw [if_pos (by decide +kernel)]; kernel_rfl) | (rw [if_neg (by decide +kernel)]; exact ⟨rfl, rfl⟩))
    (fun os started H enc _ => lifted os started H enc)
theorem proved : Rows.PrimRepeatedCardSaid :=
  Claim7.holds_tied_plain_at .later [] [.data] true (true, "c48142069686eda1f245f4174541a761d0ed2a85e4383fa61a5a23a4d37df986") false
    holds (fun _ h => by cases h) (by kernel_rfl) (fun _ h => by cases h) primRepeated_row_tie rfl ⟨rfl, rfl⟩ (by kernel_rfl) rfl
    (fun f fn hf hfn => by
      obtain rfl : f = 9 := Option.some.inj ((show Tryd.prog.funcNamed "sheafworks/sheafworkslaw04.PrimRepeated" = some 9 by kernel_rfl).symm.trans hf) |>.symm
      obtain rfl : fn = Tryd.f9 := (Option.some.inj (Tryd.func9.symm.trans hfn)).symm
      exact ⟨by kernel_rfl, fun j t ht => by
        rw [Tryd.params9] at ht
        have hm : t ∈ [22] := by
          have := Array.mem_of_getElem? ht
          simpa using this
        have hall : ([22].all fun u => !Tryd.prog.wantsStandIn u) = true := by kernel_rfl
        exact (show Tryd.prog.wantsStandIn t = false by simpa using List.all_eq_true.1 hall t hm)⟩)
    (by kernel_rfl)
#print axioms proved
end Go.Proofs.YtchjdhlmpdcibaaDoor.primRepeated
