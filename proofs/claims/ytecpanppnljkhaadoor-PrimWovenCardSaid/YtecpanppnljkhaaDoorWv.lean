/- PrimWoven: the rows that the law builds, side by side. -/
import Derived.Test.YtecpanppnljkhaaDoorRw
import Derived.Test.YtecpanppnljkhaaDoorMv
import Derived.Test.YtecpanppnljkhaaDoorCd
namespace Go.Proofs.YtecpanppnljkhaaDoor
set_option linter.unusedVariables false
open Go.RowKit
theorem sl_info : (Tryd.prog.info? 22).map (fun i => (i.zero, i.size, i.bytes)) = some (some (.slice none 0 0), 1, 24) := by kernel_rfl
/-- A row of any element type, as a slice value. -/
theorem row_form {w : World} {base : Nat} {e : TypeId} {v : Value} {xs : List Value} (h : w.ownsRow base e 1 v xs.length xs) :
    ∃ A c, v = .slice A xs.length c ∧ xs.length ≤ c ∧ (0 < xs.length → ∃ b, A = some ⟨b, 0, none⟩ ∧ b < w.heap.size ∧ ∀ j, j < xs.length → w.cell? ⟨b, 0 + j, none⟩ = xs[j]?) := by
  rcases h.2 with ⟨rfl, h0⟩ | ⟨g, cap, cur, rfl, hb, hg, hn, _⟩
  · exact ⟨none, 0, by rw [h0], by omega, fun hl => by omega⟩
  · refine ⟨_, cap, rfl, hn, fun _ => ⟨g, rfl, (Array.getElem?_eq_some_iff.1 hg).1, fun j hj => ?_⟩⟩
    rw [Nat.zero_add]
    exact World.ownsRow.cellAt h j (by omega)
/-- A row that is there, though it may be empty. -/
theorem own_some {w : World} {base : Nat} {v : Value} {zs : List Int} (h : OwnI w base v zs) (hv : v ≠ .slice none 0 0) : ∃ g c, v = .slice (some ⟨g, 0, none⟩) zs.length c ∧ zs.length ≤ c := by
  rcases h.2 with ⟨rfl, h0⟩ | ⟨g, cap, cur, e, hrest⟩
  · exact absurd rfl hv
  · obtain ⟨_, _, hnc, _⟩ := hrest
    exact ⟨g, cap, e, hnc⟩
def eW : Nat → TypeId := fun i => if i = 0 then 22 else 3
structure Wv (w0 wr : World) (k n N : Nat) (v : Nat → Value) (xs : Nat → List Value) (L : List (List Int)) (P : List Int) : Prop where
  len : L.length = k
  each : ∀ l ∈ L, l.length = n
  wrd : ∀ l ∈ L, ∀ x ∈ l, isW x
  rows : Rws wr w0.heap.size N eW v xs
  x0 : xs 0 = (List.range k).map fun j => v (3 + j)
  x1 : xs 1 = L.flatten.map (Value.int .i64)
  x2 : xs 2 = P.map (Value.int .i64)
  x3 : ∀ j, j < k → xs (3 + j) = (nthL L j).map (Value.int .i64)
  below : Below w0.heap.size w0 wr
section
variable {w0 wr w' : World} {k n N : Nat} {v : Nat → Value} {xs : Nat → List Value} {L : List (List Int)} {P O : List Int}
theorem Wv.size (h : Wv w0 wr k n N v xs L P) : w0.heap.size ≤ wr.heap.size := h.below.size
/-- A new list, still empty. -/
theorem Wv.begin_ (h : Wv w0 wr k n (3 + k) v xs L P) : Wv w0 (wr.alloc (.cells #[] 3)) k n (3 + k + 1) (upd v (3 + k) (.slice (some ⟨wr.heap.size, 0, none⟩) 0 0)) (upd xs (3 + k) []) L P := by
  have h1 := h.rows.add (e' := 3) (World.ownsRow_lit (base := w0.heap.size) (e := 3) (size := 1) wr #[] 0 h.size (by simp [maxLen]) rfl) (World.grownBy_alloc wr _ none) (fun k hk => by simp [Value.ownBlock] at hk; omega)
  refine ⟨h.len, h.each, h.wrd, h1.congr (fun i hi => ?_) (fun _ _ => rfl) (fun _ _ => rfl), ?_, ?_, ?_, fun j hj => ?_, h.below.alloc h.size _⟩
  · by_cases e1 : i = 3 + k
    · subst e1; rw [upd_same]; (simp [eW])
    · rw [upd_ne _ _ e1]
  · rw [upd_ne _ _ (by omega), h.x0]
    apply List.map_congr_left
    intro j hj
    rw [List.mem_range] at hj
    rw [upd_ne _ _ (by omega)]
  · rw [upd_ne _ _ (by omega), h.x1]
  · rw [upd_ne _ _ (by omega), h.x2]
  · rw [upd_ne _ _ (by omega), h.x3 j hj]
theorem Wv.alloc (h : Wv w0 wr k n N v xs L P) (o : Obj) : Wv w0 (wr.alloc o) k n N v xs L P := ⟨h.len, h.each, h.wrd, h.rows.alloc o, h.x0, h.x1, h.x2, h.x3, h.below.alloc h.size _⟩
theorem Wv.grow (h : Wv w0 wr k n N v xs L P) {i : Nat} (hi : i < N) (hg : wr.grownBy w' (v i).ownBlock) : Below w0.heap.size w0 w' :=
  h.below.grown hg h.size (fun k e => (h.rows.lt hi k e).1)
theorem Wv.own_ (h : Wv w0 wr k n (3 + k + 1) v xs L P) (hx : xs (3 + k) = O.map (Value.int .i64)) : OwnI wr w0.heap.size (v (3 + k)) O := h.rows.ints (by omega) (by (simp [eW])) hx
theorem Wv.places (h : Wv w0 wr k n (3 + k + 1) v xs L P) : OwnI wr w0.heap.size (v 2) P := h.rows.ints (by omega) rfl h.x2
theorem Wv.all (h : Wv w0 wr k n N v xs L P) (hN : 3 ≤ N) : OwnI wr w0.heap.size (v 1) L.flatten := h.rows.ints (by omega) rfl h.x1
theorem OwnI.row {w : World} {base : Nat} {v : Value} {zs : List Int} (h : OwnI w base v zs) : w.ownsRow base 3 1 v (zs.map (Value.int .i64)).length (zs.map (Value.int .i64)) := by rw [List.length_map]; exact h
/-- A word more in the new list. -/
theorem Wv.push (h : Wv w0 wr k n (3 + k + 1) v xs L P) {v' : Value} {O' : List Int} (hown : OwnI w' w0.heap.size v' O') (hg : wr.grownBy w' (v (3 + k)).ownBlock) (hd : v'.ownBlock = (v (3 + k)).ownBlock ∨ v'.ownBlock = some wr.heap.size) :
    Wv w0 w' k n (3 + k + 1) (upd v (3 + k) v') (upd xs (3 + k) (O'.map (Value.int .i64))) L P := by
  have h1 := h.rows.app (i := 3 + k) (by omega) (by rw [show eW (3 + k) = 3 by (simp [eW])]; exact hown.row) hg hd
  refine ⟨h.len, h.each, h.wrd, h1, ?_, ?_, ?_, fun j hj => ?_, h.grow (by omega) hg⟩
  · rw [upd_ne _ _ (by omega), h.x0]
    apply List.map_congr_left
    intro j hj
    rw [List.mem_range] at hj
    rw [upd_ne _ _ (by omega)]
  · rw [upd_ne _ _ (by omega), h.x1]
  · rw [upd_ne _ _ (by omega), h.x2]
  · rw [upd_ne _ _ (by omega), h.x3 j hj]
/-- A place more. -/
theorem Wv.place (h : Wv w0 wr k n (3 + k + 1) v xs L P) {v' : Value} {P' : List Int} (hown : OwnI w' w0.heap.size v' P') (hg : wr.grownBy w' (v 2).ownBlock) (hd : v'.ownBlock = (v 2).ownBlock ∨ v'.ownBlock = some wr.heap.size) :
    Wv w0 w' k n (3 + k + 1) (upd v 2 v') (upd xs 2 (P'.map (Value.int .i64))) L P' := by
  have h1 := h.rows.app (i := 2) (by omega) (by rw [show eW 2 = 3 from rfl]; exact hown.row) hg hd
  refine ⟨h.len, h.each, h.wrd, h1, ?_, ?_, ?_, fun j hj => ?_, h.grow (by omega) hg⟩
  · rw [upd_ne _ _ (by omega), h.x0]
    apply List.map_congr_left
    intro j hj
    rw [upd_ne _ _ (by omega)]
  · rw [upd_ne _ _ (by omega), h.x1]
  · rw [upd_same]
  · rw [upd_ne _ _ (by omega), h.x3 j hj]
/-- The new list is one of the lists, and its words behind all words. -/
theorem Wv.done_ (h : Wv w0 wr k n (3 + k + 1) v xs L P) (hx : xs (3 + k) = O.map (Value.int .i64)) (hO : O.length = n) (hw : ∀ x ∈ O, isW x) {w1 : World} {v1 v2 : Value}
    (ho1 : w1.ownsRow w0.heap.size 22 1 v1 (k + 1) (xs 0 ++ [v (3 + k)])) (hg1 : wr.grownBy w1 (v 0).ownBlock) (hd1 : v1.ownBlock = (v 0).ownBlock ∨ v1.ownBlock = some wr.heap.size)
    (ho2 : OwnI w' w0.heap.size v2 (L.flatten ++ O)) (hg2 : w1.grownBy w' (v 1).ownBlock) (hd2 : v2.ownBlock = (v 1).ownBlock ∨ v2.ownBlock = some w1.heap.size) :
    Wv w0 w' (k + 1) n (3 + (k + 1)) (upd (upd v 0 v1) 1 v2) (upd (upd xs 0 (xs 0 ++ [v (3 + k)])) 1 ((L.flatten ++ O).map (Value.int .i64))) (L ++ [O]) P := by
  have hl0 : (xs 0 ++ [v (3 + k)]).length = k + 1 := by rw [List.length_append, h.x0]; simp
  have h1 := h.rows.app (i := 0) (by omega) (by rw [show eW 0 = 22 from rfl, hl0]; exact ho1) hg1 hd1
  have h2 := h1.app (i := 1) (by omega) (by rw [show eW 1 = 3 from rfl]; exact ho2.row) (by rw [upd_ne _ _ (by omega)]; exact hg2) (by rw [upd_ne _ _ (by omega)]; exact hd2)
  have hb1 := h.grow (i := 0) (by omega) hg1
  have hlen := h.len
  refine ⟨by rw [List.length_append, h.len]; rfl, fun l hl => ?_, fun l hl => ?_, by rw [show 3 + (k + 1) = 3 + k + 1 by omega]; exact h2, ?_, ?_, ?_, fun j hj => ?_, hb1.grown hg2 hb1.size (fun k e => (h.rows.lt (i := 1) (by omega) k e).1)⟩
  · rcases List.mem_append.1 hl with h3 | h3
    · exact h.each l h3
    · simp at h3; subst h3; exact hO
  · rcases List.mem_append.1 hl with h3 | h3
    · exact h.wrd l h3
    · simp at h3; subst h3; exact hw
  · rw [upd_ne _ _ (by omega), upd_same, List.range_succ, List.map_append, h.x0]
    have e0 : (List.range k).map (fun j => upd (upd v 0 v1) 1 v2 (3 + j)) = (List.range k).map fun j => v (3 + j) := by
      apply List.map_congr_left
      intro j hj
      rw [upd_ne _ _ (by omega), upd_ne _ _ (by omega)]
    rw [e0, List.map_cons, List.map_nil, upd_ne _ _ (by omega), upd_ne _ _ (by omega)]
  · rw [upd_same, List.flatten_append]; simp
  · rw [upd_ne _ _ (by omega), upd_ne _ _ (by omega), h.x2]
  · rw [upd_ne _ _ (by omega), upd_ne _ _ (by omega)]
    by_cases e1 : j = k
    · subst e1
      rw [hx]
      congr 1
      unfold nthL
      rw [List.getD_eq_getElem?_getD, List.getElem?_append_right (by omega), hlen, Nat.sub_self]
      rfl
    · rw [h.x3 j (by omega)]
      congr 1
      unfold nthL
      rw [List.getD_eq_getElem?_getD, List.getD_eq_getElem?_getD, List.getElem?_append_left (by omega)]
/-- What comes of it: the lists, all words, the places. -/
theorem Wv.end_ (h : Wv w0 wr k n (3 + k) v xs L P) : (∃ A c, v 0 = .slice A L.length c ∧ L.length ≤ c ∧ Sll wr A L) ∧ (∃ A c, v 1 = .slice A L.flatten.length c ∧ L.flatten.length ≤ c ∧ Sl wr A L.flatten) ∧ (∃ A c, v 2 = .slice A P.length c ∧ P.length ≤ c ∧ Sl wr A P) := by
  have hlen := h.len
  refine ⟨?_, (h.all (by omega)).form, (h.rows.ints (i := 2) (by omega) rfl h.x2).form⟩
  have hl0 : (xs 0).length = L.length := by rw [h.x0, hlen]; simp
  obtain ⟨A, c, e, hc, hcell⟩ := row_form (h.rows.own 0 (by omega))
  rw [hl0] at e hc hcell
  refine ⟨A, c, e, hc, fun hl => ?_⟩
  obtain ⟨b, eA, hb, hcs⟩ := hcell hl
  refine ⟨b, 0, eA, hb, fun j hj => ?_⟩
  obtain ⟨A', c', e', h1, h2⟩ := (h.rows.ints (i := 3 + j) (by omega) (by (simp [eW])) (h.x3 j (by omega))).form
  refine ⟨A', c', ?_, h1, h2⟩
  rw [hcs j hj, h.x0, List.getElem?_map, List.getElem?_range (by omega)]
  simp [e']
end
end Go.Proofs.YtecpanppnljkhaaDoor
