/- Memory words for slices of spans. -/
import Derived.Test.YtcbkocjpkdcpfaaTh
import Derived.Test.YtcbkocjpkdcpfaaTc
namespace Go.Proofs.Ytcbkocjpkdcpfaa
set_option linter.unusedVariables false
open Go.RowKit Go.Shelf
open Go.Sort (HoldsK putRowK size_flatK get_flatK flatK)

def pth (ps : List (Int × Int)) (k : Nat) : Int × Int := ps.getD k (0, 0)
theorem pth_eq (ps : List (Int × Int)) (k : Nat) (h : k < ps.length) : pth ps k = ps[k] := by
  unfold pth; rw [List.getD_eq_getElem?_getD, List.getElem?_eq_getElem h]; rfl
def fl (ps : List (Int × Int)) : List Value := ps.flatMap encS
theorem fl_snoc (ps : List (Int × Int)) (x : Int × Int) : fl (ps ++ [x]) = fl ps ++ [.int .i64 x.1, .int .i64 x.2] := by simp [fl, encS]
theorem fl_length (ps : List (Int × Int)) : (fl ps).length = ps.length * 2 := by
  induction ps with
  | nil => rfl
  | cons x ps ih => rw [show fl (x :: ps) = encS x ++ fl ps from rfl, List.length_append, ih]; simp [encS]; omega
theorem fl_at : ∀ (ps : List (Int × Int)) (j : Nat), j < ps.length → (fl ps)[j * 2]? = some (.int .i64 (pth ps j).1) ∧ (fl ps)[j * 2 + 1]? = some (.int .i64 (pth ps j).2)
  | [], j, h => absurd h (by simp)
  | x :: ps, 0, h => by constructor <;> rfl
  | x :: ps, j + 1, h => by
    have ih := fl_at ps j (by simpa using h)
    have e : fl (x :: ps) = .int .i64 x.1 :: .int .i64 x.2 :: fl ps := rfl
    have e1 : (j + 1) * 2 = j * 2 + 1 + 1 := by omega
    refine ⟨?_, ?_⟩
    · rw [e, e1, List.getElem?_cons_succ, List.getElem?_cons_succ]; exact ih.1
    · rw [e, e1, List.getElem?_cons_succ, List.getElem?_cons_succ]; exact ih.2

/-- The slice value at A holds these spans. -/
def SlP (w : World) (A : Option Addr) (ps : List (Int × Int)) : Prop :=
  0 < ps.length → ∃ b off, A = some ⟨b, off, none⟩ ∧ b < w.heap.size ∧ ∀ j, j < ps.length → w.cell? ⟨b, off + j * 2, none⟩ = some (.int .i64 (pth ps j).1) ∧ w.cell? ⟨b, off + j * 2 + 1, none⟩ = some (.int .i64 (pth ps j).2)
theorem SlP.nil (w : World) (A : Option Addr) : SlP w A [] := fun h => absurd h (by simp)
theorem SlP.below {w w' : World} {B : Nat} {A : Option Addr} {ps : List (Int × Int)} (h : SlP w A ps) (hb : Below B w w') (hB : w.heap.size ≤ B) : SlP w' A ps := fun hl => by
  obtain ⟨b, off, e, hlt, hc⟩ := h hl
  have hlt' : b < B := Nat.lt_of_lt_of_le hlt hB
  exact ⟨b, off, e, Nat.lt_of_lt_of_le hlt hb.size, fun j hj => ⟨(hb.cell (p := ⟨b, off + j * 2, none⟩) hlt').trans (hc j hj).1, (hb.cell (p := ⟨b, off + j * 2 + 1, none⟩) hlt').trans (hc j hj).2⟩⟩
theorem SlP.step {w w' : World} {A : Option Addr} {ps : List (Int × Int)} (h : SlP w A ps) (hb : Below w.heap.size w w') : SlP w' A ps := h.below hb (Nat.le_refl _)
/-- A row of spans of the call's own. -/
def OwnP (w : World) (base : Nat) (v : Value) (ps : List (Int × Int)) : Prop := w.ownsRow base 52 2 v ps.length (fl ps)
theorem OwnP.nil (w : World) (base : Nat) : OwnP w base (.slice none 0 0) [] := World.ownsRow_nil w base 52 2
theorem OwnP.alloc {w : World} {base : Nat} {v : Value} {ps : List (Int × Int)} (h : OwnP w base v ps) (o : Obj) : OwnP (w.alloc o) base v ps := World.ownsRow.alloc h o
theorem OwnP.drew {w : World} {base : Nat} {v : Value} {ps : List (Int × Int)} (h : OwnP w base v ps) : OwnP w.drew base v ps := h
theorem OwnP.aside {X Y : World} {B base : Nat} {v : Value} {ps : List (Int × Int)} {row : Option Nat} (h : OwnP X base v ps) (hg : X.grownBy Y row) (hr : Aside B X row) : OwnP Y base v ps := own_aside h hg hr
theorem OwnP.kept {w w' : World} {base : Nat} {v : Value} {ps : List (Int × Int)} {row : Option Nat} (h : OwnP w base v ps) (hg : w.grownBy w' row) (hne : v.ownBlock = none ∨ v.ownBlock ≠ row) : OwnP w' base v ps := World.ownsRow.kept h hg hne
theorem OwnP.lt {w : World} {base : Nat} {v : Value} {ps : List (Int × Int)} (h : OwnP w base v ps) : ∀ k, v.ownBlock = some k → base ≤ k ∧ k < w.heap.size := World.ownsRow.lt h
theorem OwnP.snoc {w : World} {base : Nat} {v : Value} {ps : List (Int × Int)} {a b : Int} (h : w.ownsRow base 52 2 v (ps.length + 1) (fl ps ++ [.int .i64 a, .int .i64 b])) : OwnP w base v (ps ++ [(a, b)]) := by
  unfold OwnP
  rw [fl_snoc, List.length_append]
  exact h
theorem OwnP.form {w : World} {base : Nat} {v : Value} {ps : List (Int × Int)} (h : OwnP w base v ps) :
    (∃ c, ps = [] ∧ v = .slice none 0 c) ∨ ∃ g c, v = .slice (some ⟨g, 0, none⟩) ps.length c ∧ ps.length ≤ c ∧ base ≤ g ∧ g < w.heap.size ∧ (∀ j, j < ps.length → w.cell? ⟨g, j * 2, none⟩ = some (.int .i64 (pth ps j).1) ∧ w.cell? ⟨g, j * 2 + 1, none⟩ = some (.int .i64 (pth ps j).2)) ∧ ∀ j, w.frozen? ⟨g, j, none⟩ = false := by
  have hr := h
  rcases h.2 with ⟨rfl, h0⟩ | ⟨g, cap, cur, rfl, hb, hh, hnc, _⟩
  · exact .inl ⟨0, List.eq_nil_of_length_eq_zero h0, rfl⟩
  · refine .inr ⟨g, cap, rfl, hnc, hb, (h.lt g rfl).2, fun j hj => ?_, fun j => World.ownsRow.frozenAt hr j⟩
    have hf := fl_at ps j hj
    exact ⟨by rw [World.ownsRow.cellAt hr (j * 2) (by omega)]; exact hf.1, by rw [World.ownsRow.cellAt hr (j * 2 + 1) (by omega)]; exact hf.2⟩
theorem fl_set : ∀ (ps : List (Int × Int)) (j : Nat) (v : Int), j < ps.length → fl (ps.set j ((pth ps j).1, v)) = (fl ps).set (j * 2 + 1) (.int .i64 v)
  | [], j, v, h => absurd h (by simp)
  | x :: ps, 0, v, h => rfl
  | x :: ps, j + 1, v, h => by
    have ih := fl_set ps j v (by simpa using h)
    have e1 : (j + 1) * 2 + 1 = j * 2 + 1 + 1 + 1 := by omega
    rw [e1]
    show encS x ++ fl (ps.set j ((pth ps j).1, v)) = (.int .i64 x.1 :: .int .i64 x.2 :: fl ps).set (j * 2 + 1 + 1 + 1) (.int .i64 v)
    rw [ih]
    rfl
theorem OwnP.storedLen {w : World} {base g c : Nat} {ps : List (Int × Int)} (h : OwnP w base (.slice (some ⟨g, 0, none⟩) ps.length c) ps) (j : Nat) (hj : j < ps.length) (v : Int) :
    OwnP (w.setCell ⟨g, j * 2 + 1, none⟩ (.int .i64 v)) base (.slice (some ⟨g, 0, none⟩) ps.length c) (ps.set j ((pth ps j).1, v)) ∧ w.grownBy (w.setCell ⟨g, j * 2 + 1, none⟩ (.int .i64 v)) (some g) := by
  have := World.ownsRow.stored h (j * 2 + 1) (.int .i64 v)
  refine ⟨?_, this.2⟩
  unfold OwnP
  rw [List.length_set, fl_set ps j v hj]
  exact this.1
theorem OwnP.cellAt {w : World} {base g c : Nat} {ps : List (Int × Int)} (h : OwnP w base (.slice (some ⟨g, 0, none⟩) ps.length c) ps) (j : Nat) (hj : j < ps.length) : w.cell? ⟨g, j * 2, none⟩ = some (.int .i64 (pth ps j).1) ∧ w.cell? ⟨g, j * 2 + 1, none⟩ = some (.int .i64 (pth ps j).2) ∧ w.frozen? ⟨g, j * 2 + 1, none⟩ = false := by
  have hf := fl_at ps j hj
  exact ⟨by rw [World.ownsRow.cellAt h (j * 2) (by omega)]; exact hf.1, by rw [World.ownsRow.cellAt h (j * 2 + 1) (by omega)]; exact hf.2, World.ownsRow.frozenAt h _⟩
theorem OwnP.empty (w : World) (base : Nat) (hb : base ≤ w.heap.size) : OwnP (w.alloc (.cells #[] 52)) base (.slice (some ⟨w.heap.size, 0, none⟩) 0 0) [] :=
  World.ownsRow_lit w #[] 0 hb (by simp [maxLen]) rfl
theorem OwnP.sl {w : World} {base : Nat} {v : Value} {ps : List (Int × Int)} (h : OwnP w base v ps) : ∃ A c, v = .slice A ps.length c ∧ ps.length ≤ c ∧ SlP w A ps := by
  rcases h.form with ⟨c, rfl, rfl⟩ | ⟨g, c, rfl, h1, h2, h3, h4, h5⟩
  · exact ⟨none, c, rfl, Nat.zero_le _, SlP.nil _ _⟩
  · refine ⟨_, c, rfl, h1, fun hl => ⟨g, 0, rfl, h3, fun j hj => ?_⟩⟩
    have := h4 j hj
    simpa using this
/-- 'Returned a list of spans'. -/
def RetP (w : World) (ps : List (Int × Int)) (e : Ending) (w' : World) : Prop := ∃ A c, e = .returned (.slice A ps.length c) ∧ ps.length ≤ c ∧ SlP w' A ps ∧ (∀ a, A = some a → w.heap.size ≤ a.block) ∧ Below w.heap.size w w'
def RetPE (w : World) (ps : List (Int × Int)) (er : Int) (e : Ending) (w' : World) : Prop := ∃ A c, e = .returned (.tuple #[.slice A ps.length c, .int .i64 er]) ∧ ps.length ≤ c ∧ SlP w' A ps ∧ Below w.heap.size w w'

/-! ### what the sort does -/
theorem sort_grown (w : World) (blk off n : Nat) (d : Array (Int × Int)) (os : Array Obj) : w.grownBy (sortWorldK encS 2 w blk off n d os) (some blk) := by
  refine ⟨rfl, rfl, rfl, ?_, fun i hi hne => ?_⟩
  · unfold sortWorldK putRowK; simp
  · unfold sortWorldK putRowK Go.Sort.putRow Go.Sort.mapBlock Go.Sort.grow
    have hne' : blk ≠ i := fun e => hne (by rw [e])
    simp only [Go.Sort.heap_ahead]
    rw [Array.getElem?_append_left (by simpa using hi), Array.getElem?_modify, if_neg hne']
theorem holdsK_of {w : World} {g : Nat} {ps : List (Int × Int)} (hc : ∀ j, j < ps.length → w.cell? ⟨g, j * 2, none⟩ = some (.int .i64 (pth ps j).1) ∧ w.cell? ⟨g, j * 2 + 1, none⟩ = some (.int .i64 (pth ps j).2)) (hf : ∀ j, w.frozen? ⟨g, j, none⟩ = false) :
    HoldsK encS 2 w g 0 ps.toArray := by
  intro t ht
  rw [size_flatK, List.size_toArray] at ht
  rw [get_flatK encS 2 _ t (by simpa using ht), Nat.zero_add]
  refine ⟨?_, hf t⟩
  have hj : t / 2 < ps.length := by omega
  have e : ps.toArray[t / 2]! = pth ps (t / 2) := by
    rw [pth_eq ps _ hj]; simp [hj]
  rw [e]
  rcases Nat.mod_two_eq_zero_or_one t with h | h
  · rw [h, show t = t / 2 * 2 by omega]
    have := (hc (t / 2) hj).1
    rw [show (t / 2 * 2) / 2 = t / 2 by omega]
    exact this
  · rw [h, show t = t / 2 * 2 + 1 by omega]
    have := (hc (t / 2) hj).2
    rw [show (t / 2 * 2 + 1) / 2 = t / 2 by omega]
    exact this
theorem sl_of_holdsK {w : World} {g : Nat} {d : Array (Int × Int)} (h : HoldsK encS 2 w g 0 d) (hg : g < w.heap.size) : SlP w (some ⟨g, 0, none⟩) d.toList := fun hl => by
  refine ⟨g, 0, rfl, hg, fun j hj => ?_⟩
  have hj' : j < d.size := by simpa using hj
  have h1 := (h (j * 2) (by rw [size_flatK]; omega)).1
  have h2 := (h (j * 2 + 1) (by rw [size_flatK]; omega)).1
  rw [get_flatK encS 2 _ _ (by omega)] at h1 h2
  have e : d[j]! = pth d.toList j := by rw [pth_eq _ _ hj]; simp [hj']
  rw [show j * 2 / 2 = j by omega, show j * 2 % 2 = 0 by omega, e] at h1
  rw [show (j * 2 + 1) / 2 = j by omega, show (j * 2 + 1) % 2 = 1 by omega, e] at h2
  exact ⟨h1, h2⟩
end Go.Proofs.Ytcbkocjpkdcpfaa
