/- Walks of scan: Fold, Scan, Through. -/
import Derived.Test.YtecpanppnljkhaaGreatDoorEh
import Derived.Test.YtecpanppnljkhaaGreatDoorSg
namespace Go.Proofs.YtecpanppnljkhaaGreatDoor
set_option linter.unusedVariables false
set_option maxRecDepth 100000
open Go.RowKit Go.Shelf
/-- The error of a fold. -/
def fsE (op : Int) (l lens : List Int) : Int := if cE op [l, lens] = 0 then (if ckE lens = 0 ∧ lens.sum = l.length then 0 else 6) else cE op [l, lens]
theorem fsE_c {op : Int} {l lens : List Int} (h : cE op [l, lens] ≠ 0) : fsE op l lens = cE op [l, lens] := by unfold fsE; rw [if_neg h]
theorem fsE_6 {op : Int} {l lens : List Int} (h : cE op [l, lens] = 0) (h' : ¬ (ckE lens = 0 ∧ lens.sum = l.length)) : fsE op l lens = 6 := by unfold fsE; rw [if_pos h, if_neg h']
theorem fsE_0 {op : Int} {l lens : List Int} (h : cE op [l, lens] = 0) (h' : ckE lens = 0 ∧ lens.sum = l.length) : fsE op l lens = 0 := by unfold fsE; rw [if_pos h, if_pos h']
theorem fsE_ok {op : Int} {l lens : List Int} (h : fsE op l lens = 0) : cE op [l, lens] = 0 ∧ Segs l lens := by
  unfold fsE at h
  by_cases h1 : cE op [l, lens] = 0
  · rw [if_pos h1] at h
    by_cases h2 : ckE lens = 0 ∧ lens.sum = l.length
    · obtain ⟨k1, k2, _⟩ := ck_fine h2.1
      have h3 := (lsE_ok (cE_ok h1).2).1
      exact ⟨h1, ⟨k1, k2, h3 l (by simp), h2.2⟩⟩
    · rw [if_neg h2] at h; cases h
  · rw [if_neg h1] at h; exact absurd h h1
theorem retL_of {w w1 : World} {L : List Int} {A : Option Addr} {c : Nat} (hc : L.length ≤ c) (hs : Sl w1 A L) (hB : Below w.heap.size w w1) : RetL w (orL 0 L) 0 (.returned (.tuple #[.slice A L.length c, .int .i64 0])) w1 := ⟨A, c, rfl, hc, hs, hB⟩
set_option maxHeartbeats 4000000 in
theorem by_any (K : FuncId) (F : List Int → List Int) (op : Int) (A A' : Option Addr) (c cl : Nat) (l lens : List Int) (w : World) (hI : Inv w) (h : Sl w A l) (hcl : l.length ≤ cl) (k : Ok l) (h' : Sl w A' lens) (hc' : lens.length ≤ c) (k' : Ok lens)
    (HOF : ∀ (g : Nat) (W : World), Blk W g 3 #[.int .i64 op] → Sl W A l → Sl W A' lens → Segs l lens → Calls Tryz.prog 49 #[.agg #[.int .i64 (neN op), .func (.func 87) #[] #[.pointer (some ⟨g, 0, none⟩)], .func (.func K) #[] #[]], .slice A l.length cl, .slice A' lens.length c] W (RetS W (kpK F l lens lens.length))) :
    Calls Tryz.prog 29 #[.int .i64 op, .slice A l.length cl, .slice A' lens.length c, .func (.func K) #[] #[]] w (RetL w (orL (fsE op l lens) (kpK F l lens lens.length)) (fsE op l lens)) := by
  have bA := Blk.new w 22 #[.slice A l.length cl, .slice A' lens.length c]
  have hB0 : Below w.heap.size w (w.alloc (.cells #[.slice A l.length cl, .slice A' lens.length c] 22)) := (Below.refl _ _).alloc (Nat.le_refl _) _
  have C1 := checked_any op (some ⟨w.heap.size, 0, none⟩) 2 [l, lens] _ (hI.below hB0) (sll2 bA (h.step hB0) (h'.step hB0) hcl hc') (by simp) (allShort_of (by unfold Ok at k k'; simpa using ⟨k, k'⟩))
  have C2 := fun W (hW : Sl W A' lens) => sgcheck_any A' c lens W hW k'
  by_cases hc : cE op [l, lens] = 0
  · rw [hc] at C1
    have C1 := Lib.hid C1
    by_cases hk : ckE lens = 0 ∧ lens.sum = l.length
    · obtain ⟨p1, p2, p3⟩ := ck_fine hk.1
      have hll := (lsE_ok (cE_ok hc).2).1 l (by simp)
      have hz : Segs l lens := ⟨p1, p2, hll, hk.2⟩
      rw [fsE_0 hc hk]
      rw [p3, hk.1, hk.2] at C2
      have C2 := Lib.hid C2
      have HZ := Lib.hid hz
      have HOF' := Lib.hid HOF
      clear hc hk HOF p1 p2 p3 hz
      go_enter Tryz.func29, Tryz.ntmps29
      go_wp2_with fail
      refine C1.out.mono ?_
      rintro e w1 ⟨n, f, rfl, hB, hg, hz⟩
      obtain ⟨rfl, g, rfl, hgl, hgb⟩ := hg rfl
      clear hz
      have hB1 := hB0.trans (hB.mono (by simp))
      have hsz := hB.size
      simp at hsz hgl
      have hB2 := hB1.alloc (by omega) (.cells #[.int .i64 (neN op), .func (.func 87) #[] #[.pointer (some ⟨g, 0, none⟩)]] 58)
      have hgb2 := hgb.alloc (.cells #[.int .i64 (neN op), .func (.func 87) #[] #[.pointer (some ⟨g, 0, none⟩)]] 58)
      have b6 := Blk.new w1 58 #[.int .i64 (neN op), .func (.func 87) #[] #[.pointer (some ⟨g, 0, none⟩)]]
      have C2' := Lib.hid (C2.out _ (h'.step hB2))
      go_wp2_with fail
      refine C2'.out.mono ?_
      rintro e w2 ⟨rfl, hBc⟩
      have hB3 := hB2.trans (hBc.mono hB2.size)
      have d6 := b6.below hBc b6.lt
      have k60 := d6.cell 0
      have k61 := d6.cell 1
      simp at k60 k61
      have C3 := Lib.hid (HOF'.out g w2 (hgb2.below hBc hgb2.lt) (h.step hB3) (h'.step hB3) HZ.out)
      go_wp2_with fail
      refine C3.out.mono ?_
      rintro e w3 ⟨A3, c3, rfl, hc3, hs3, hBd⟩
      go_wp2
      go_ret2
      exact retL_of hc3 hs3 (hB3.trans (hBd.mono hB3.size))
    · rw [fsE_6 hc hk]
      clear HOF
      by_cases he : ckE lens = 0
      · have hn := (ck_fine he).2.2
        have hd : (lens.sum != (l.length : Int)) = true := by rw [bne_iff_ne]; exact fun e => hk ⟨he, e⟩
        rw [hn, he] at C2
        have C2 := Lib.hid C2
        clear hc hk hn he
        go_enter Tryz.func29, Tryz.ntmps29
        go_wp2_with fail
        refine C1.out.mono ?_
        rintro e w1 ⟨n, f, rfl, hB, hg, hz⟩
        obtain ⟨rfl, g, rfl, hgl, hgb⟩ := hg rfl
        clear hz
        have hB1 := hB0.trans (hB.mono (by simp))
        have hsz := hB.size
        simp at hsz hgl
        have hB2 := hB1.alloc (by omega) (.cells #[.int .i64 (neN op), .func (.func 87) #[] #[.pointer (some ⟨g, 0, none⟩)]] 58)
        have C2' := Lib.hid (C2.out _ (h'.step hB2))
        go_wp2_with fail
        refine C2'.out.mono ?_
        rintro e w2 ⟨rfl, hBc⟩
        have hB3 := hB2.trans (hBc.mono hB2.size)
        go_wp2
        go_ret2
        exact retL_none' (by decide) hB3
      · have hd : (ckE lens != 0) = true := by rw [bne_iff_ne]; exact he
        obtain ⟨y, hy⟩ : ∃ y, ckE lens = y := ⟨_, rfl⟩
        obtain ⟨z, hz⟩ : ∃ z, ckN lens = z := ⟨_, rfl⟩
        rw [hy] at C2 hd
        rw [hz] at C2
        have C2 := Lib.hid C2
        clear hc hk he hy hz
        go_enter Tryz.func29, Tryz.ntmps29
        go_wp2_with fail
        refine C1.out.mono ?_
        rintro e w1 ⟨n, f, rfl, hB, hg, hz⟩
        obtain ⟨rfl, g, rfl, hgl, hgb⟩ := hg rfl
        clear hz
        have hB1 := hB0.trans (hB.mono (by simp))
        have hsz := hB.size
        simp at hsz hgl
        have hB2 := hB1.alloc (by omega) (.cells #[.int .i64 (neN op), .func (.func 87) #[] #[.pointer (some ⟨g, 0, none⟩)]] 58)
        have C2' := Lib.hid (C2.out _ (h'.step hB2))
        go_wp2_with fail
        refine C2'.out.mono ?_
        rintro e w2 ⟨rfl, hBc⟩
        have hB3 := hB2.trans (hBc.mono hB2.size)
        go_wp2
        go_ret2
        exact retL_none' (by decide) hB3
  · rw [fsE_c hc]
    clear HOF C2
    have hd : (cE op [l, lens] != 0) = true := by rw [bne_iff_ne]; exact hc
    have HE := Lib.hid hc
    obtain ⟨y, hy⟩ : ∃ y, cE op [l, lens] = y := ⟨_, rfl⟩
    rw [hy] at C1 hd HE
    rw [hy]
    have C1 := Lib.hid C1
    clear hc hy
    go_enter Tryz.func29, Tryz.ntmps29
    go_wp2_with fail
    refine C1.out.mono ?_
    rintro e w1 ⟨n, f, rfl, hB, hg, hz⟩
    obtain ⟨rfl, rfl⟩ := hz HE.out
    clear hg hz
    have hB1 := hB0.trans (hB.mono (by simp))
    have hsz := hB.size
    simp at hsz
    have hB2 := hB1.alloc (by omega) (.cells #[.int .i64 0, .nilFunc] 58)
    go_wp2
    go_ret2
    exact retL_none' HE.out hB2
theorem fold_any (op : Int) (A A' : Option Addr) (c cl : Nat) (l lens : List Int) (w : World) (hI : Inv w) (h : Sl w A l) (hcl : l.length ≤ cl) (k : Ok l) (h' : Sl w A' lens) (hc' : lens.length ≤ c) (k' : Ok lens) :
    Calls Tryz.prog 7 #[.int .i64 op, .slice A l.length cl, .slice A' lens.length c] w (RetL w (orL (fsE op l lens) (kpK (whL (doN op) (neN op)) l lens lens.length)) (fsE op l lens)) := by
  have C1 := Lib.hid (by_any 30 (whL (doN op) (neN op)) op A A' c cl l lens w hI h hcl k h' hc' k' (fun g W hg hA hA' hz => of_whole op (neN op) g A A' c cl l lens W hg hA hcl hA' hz))
  go_enter Tryz.func7, Tryz.ntmps7
  go_wp2_with fail
  refine C1.out.mono ?_
  rintro e w1 ⟨A1, c1, rfl, hc1, hs1, hB⟩
  go_wp2
  go_ret2
  exact ⟨A1, c1, rfl, hc1, hs1, hB⟩
theorem scan_any (op : Int) (A A' : Option Addr) (c cl : Nat) (l lens : List Int) (w : World) (hI : Inv w) (h : Sl w A l) (hcl : l.length ≤ cl) (k : Ok l) (h' : Sl w A' lens) (hc' : lens.length ≤ c) (k' : Ok lens) :
    Calls Tryz.prog 9 #[.int .i64 op, .slice A l.length cl, .slice A' lens.length c] w (RetL w (orL (fsE op l lens) (kpK (ahL (doN op) (neN op)) l lens lens.length)) (fsE op l lens)) := by
  have C1 := Lib.hid (by_any 33 (ahL (doN op) (neN op)) op A A' c cl l lens w hI h hcl k h' hc' k' (fun g W hg hA hA' hz => of_ahead op (neN op) g A A' c cl l lens W hg hA hcl hA' hz))
  go_enter Tryz.func9, Tryz.ntmps9
  go_wp2_with fail
  refine C1.out.mono ?_
  rintro e w1 ⟨A1, c1, rfl, hc1, hs1, hB⟩
  go_wp2
  go_ret2
  exact ⟨A1, c1, rfl, hc1, hs1, hB⟩
theorem through_any (op : Int) (A A' : Option Addr) (c cl : Nat) (l lens : List Int) (w : World) (hI : Inv w) (h : Sl w A l) (hcl : l.length ≤ cl) (k : Ok l) (h' : Sl w A' lens) (hc' : lens.length ≤ c) (k' : Ok lens) :
    Calls Tryz.prog 11 #[.int .i64 op, .slice A l.length cl, .slice A' lens.length c] w (RetL w (orL (fsE op l lens) (kpK (upL' (doN op) (neN op)) l lens lens.length)) (fsE op l lens)) := by
  have C1 := Lib.hid (by_any 36 (upL' (doN op) (neN op)) op A A' c cl l lens w hI h hcl k h' hc' k' (fun g W hg hA hA' hz => of_upTo op (neN op) g A A' c cl l lens W hg hA hcl hA' hz))
  go_enter Tryz.func11, Tryz.ntmps11
  go_wp2_with fail
  refine C1.out.mono ?_
  rintro e w1 ⟨A1, c1, rfl, hc1, hs1, hB⟩
  go_wp2
  go_ret2
  exact ⟨A1, c1, rfl, hc1, hs1, hB⟩
end Go.Proofs.YtecpanppnljkhaaGreatDoor
