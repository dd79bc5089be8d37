/-
  Points and rectangles: plain mathematics (valid, in a rectangle, the places of those that are) and memory. No condition but what each theorem names.
-/
import Derived.Test.YthmfcdefdbeefaaNatC
namespace Go.Proofs.Ythmfcdefdbeefaa
open Go.RowKit

structure Pt3 where
  x : Int
  y : Int
  w : Int
  deriving DecidableEq, Inhabited
def Pt3.cells (p : Pt3) : List Value := [.int .i64 p.x, .int .i64 p.y, .int .i64 p.w]
def Pt3.Fits (p : Pt3) : Prop := (Lit.int .i64 p.x).wf = true ∧ (Lit.int .i64 p.y).wf = true ∧ (Lit.int .i64 p.w).wf = true
structure Rc4 where
  x0 : Int
  y0 : Int
  x1 : Int
  y1 : Int
def Rc4.Fits (r : Rc4) : Prop := (Lit.int .i64 r.x0).wf = true ∧ (Lit.int .i64 r.y0).wf = true ∧ (Lit.int .i64 r.x1).wf = true ∧ (Lit.int .i64 r.y1).wf = true

/-- Points, cell by cell. -/
def ptC : List Pt3 → List Value
  | [] => []
  | o :: r => o.cells ++ ptC r
theorem ptC_length : ∀ ps : List Pt3, (ptC ps).length = ps.length * 3
  | [] => rfl
  | o :: r => by
    unfold ptC
    rw [List.length_append, ptC_length r, List.length_cons]
    show 3 + r.length * 3 = _
    omega
theorem ptC_get : ∀ (ps : List Pt3) (i : Nat) (o : Pt3) (j : Nat), ps[i]? = some o → j < 3 → (ptC ps)[i * 3 + j]? = o.cells[j]?
  | [], i, o, j, h, _ => by simp at h
  | a :: r, 0, o, j, h, hj => by
    obtain rfl : a = o := by simpa using h
    unfold ptC
    rw [List.getElem?_append_left (by show 0 * 3 + j < 3; omega)]
    congr 1
    omega
  | a :: r, i + 1, o, j, h, hj => by
    unfold ptC
    rw [List.getElem?_append_right (by show 3 ≤ (i + 1) * 3 + j; omega)]
    have e : (i + 1) * 3 + j - a.cells.length = i * 3 + j := by show (i + 1) * 3 + j - 3 = _; omega
    rw [e]
    exact ptC_get r i o j (by simpa using h) hj
theorem ptC_append (a b : List Pt3) : ptC (a ++ b) = ptC a ++ ptC b := by
  induction a with
  | nil => rfl
  | cons o r ih => show o.cells ++ ptC (r ++ b) = (o.cells ++ ptC r) ++ ptC b; rw [ih, List.append_assoc]
theorem ptC_one (ps : List Pt3) : ∀ u ∈ ptC ps, u.oneCell' = true := by
  induction ps with
  | nil => intro u hu; cases hu
  | cons o r ih =>
    intro u hu
    unfold ptC at hu
    rcases List.mem_append.1 hu with e | e
    · unfold Pt3.cells at e
      simp only [List.mem_cons, List.not_mem_nil, or_false] at e
      rcases e with rfl | rfl | rfl <;> rfl
    · exact ih u e
/-- A point's cells. -/
theorem pts_at {w : World} {B : Nat} {A : Option Addr} {ps : List Pt3} (h : Lies w B A (ptC ps)) {i : Nat} {o : Pt3} (hi : ps[i]? = some o) :
    ∃ b p, A = some ⟨b, p, none⟩ ∧ b < B ∧ w.cell? ⟨b, p + i * 3, none⟩ = some (.int .i64 o.x) ∧ w.cell? ⟨b, p + i * 3 + 1, none⟩ = some (.int .i64 o.y) ∧ w.cell? ⟨b, p + i * 3 + 2, none⟩ = some (.int .i64 o.w) := by
  have hlt : i < ps.length := (List.getElem?_eq_some_iff.1 hi).1
  obtain ⟨b, p, e, hb, hc⟩ := h (by
    intro e
    have := ptC_length ps
    rw [e] at this
    simp at this
    omega)
  refine ⟨b, p, e, hb, ?_, ?_, ?_⟩
  · exact hc (i * 3) _ (ptC_get ps i o 0 hi (by decide))
  · rw [Nat.add_assoc]; exact hc (i * 3 + 1) _ (ptC_get ps i o 1 hi (by decide))
  · rw [Nat.add_assoc]; exact hc (i * 3 + 2) _ (ptC_get ps i o 2 hi (by decide))

/-- A coordinate or a weight that may be. -/
def coOk (x : Int) : Bool := decide (-1048576 ≤ x) && decide (x ≤ 1048576)
def ptOk (p : Pt3) : Bool := coOk p.x && coOk p.y && coOk p.w
/-- What is refused of points: the error's number. -/
def ptsF (ps : List Pt3) : Int := if 150 < ps.length then 1 else if ps.all ptOk then 0 else 2
theorem ptsF_zero {ps : List Pt3} (h : ptsF ps = 0) : ps.length ≤ 150 ∧ ∀ p ∈ ps, ptOk p = true := by
  unfold ptsF at h
  split at h
  · omega
  · split at h
    · rename_i h1 h2
      exact ⟨by omega, List.all_eq_true.1 h2⟩
    · omega
theorem ptsF_cases (ps : List Pt3) : ptsF ps = 0 ∨ ptsF ps = 1 ∨ ptsF ps = 2 := by
  unfold ptsF
  split
  · exact .inr (.inl rfl)
  · split
    · exact .inl rfl
    · exact .inr (.inr rfl)
/-- In a rectangle. -/
def inR (r : Rc4) (p : Pt3) : Bool := decide (r.x0 ≤ p.x) && decide (p.x ≤ r.x1) && decide (r.y0 ≤ p.y) && decide (p.y ≤ r.y1)
/-- The places of the first points that are in a rectangle, and of all. -/
def ptAt (ps : List Pt3) (i : Nat) : Pt3 := ps.getD i ⟨0, 0, 0⟩
theorem ptAt_get {ps : List Pt3} {i : Nat} (h : i < ps.length) : ps[i]? = some (ptAt ps i) := by unfold ptAt; rw [List.getD_eq_getElem?_getD, List.getElem?_eq_getElem h]; rfl
theorem ptAt_of {ps : List Pt3} {i : Nat} {p : Pt3} (h : ps[i]? = some p) : ptAt ps i = p := by unfold ptAt; rw [List.getD_eq_getElem?_getD, h]; rfl
def insTo (ps : List Pt3) (r : Rc4) (i : Nat) : List Nat := (List.range i).filter fun j => inR r (ptAt ps j)
def insR (ps : List Pt3) (r : Rc4) : List Nat := insTo ps r ps.length
theorem insTo_zero (ps : List Pt3) (r : Rc4) : insTo ps r 0 = [] := rfl
theorem insTo_yes {ps : List Pt3} {r : Rc4} {i : Nat} {p : Pt3} (hp : ps[i]? = some p) (h : inR r p = true) : insTo ps r (i + 1) = insTo ps r i ++ [i] := by
  unfold insTo
  rw [List.range_succ, List.filter_append]
  simp [ptAt_of hp, h]
theorem insTo_no {ps : List Pt3} {r : Rc4} {i : Nat} {p : Pt3} (hp : ps[i]? = some p) (h : inR r p = false) : insTo ps r (i + 1) = insTo ps r i := by
  unfold insTo
  rw [List.range_succ, List.filter_append]
  simp [ptAt_of hp, h]
theorem insTo_length (ps : List Pt3) (r : Rc4) (i : Nat) : (insTo ps r i).length ≤ i := by
  unfold insTo
  exact Nat.le_trans (List.length_filter_le _ _) (by simp)
theorem insTo_lt {ps : List Pt3} {r : Rc4} {i : Nat} : ∀ x ∈ insTo ps r i, x < i := fun x hx => by
  unfold insTo at hx
  exact List.mem_range.1 (List.mem_filter.1 hx).1
theorem insR_mem {ps : List Pt3} {r : Rc4} {x : Nat} : x ∈ insR ps r ↔ x < ps.length ∧ inR r (ptAt ps x) = true := by
  unfold insR insTo
  rw [List.mem_filter, List.mem_range]
theorem insR_sorted (ps : List Pt3) (r : Rc4) : (insR ps r).Pairwise (· < ·) := List.pairwise_lt_range.filter _

/-- A number and an error. -/
def TellsG (w : World) (x r : Int) (e : Ending) (w' : World) : Prop := e = .returned (.tuple #[.int .i64 x, .int .i64 r]) ∧ Below w.heap.size w w'
/-- A list of numbers and OK; no list and an error. -/
def GivesGL (w : World) (l : List Nat) (e : Ending) (w' : World) : Prop := ∃ A c, e = .returned (.tuple #[.slice A l.length c, .int .i64 0]) ∧ l.length ≤ c ∧ Lies w' w'.heap.size A (natC l) ∧ (A = none → c = 0) ∧ New w.heap.size A ∧ Below w.heap.size w w'
def NoGL (w : World) (r : Int) (e : Ending) (w' : World) : Prop := e = .returned (.tuple #[.slice none 0 0, .int .i64 r]) ∧ Below w.heap.size w w'
/-- What the kth of a list comes to: the error; the number. -/
def kthE (m : Nat) (k : Int) : Int := if k < 0 then 2 else if (m : Int) ≤ k then 7 else 0
def kthV (L : List Nat) (k : Int) : Int := if 0 ≤ k ∧ k < (L.length : Int) then ((L.getD k.toNat 0 : Nat) : Int) else 0
/-- The first of a list, as many as are asked. -/
def topN (L : List Nat) (k : Int) : List Nat := L.take k.toNat
/-- A point, a rectangle as a value. -/
def Pt3.val (p : Pt3) : Value := .agg #[.int .i64 p.x, .int .i64 p.y, .int .i64 p.w]
def Rc4.val (r : Rc4) : Value := .agg #[.int .i64 r.x0, .int .i64 r.y0, .int .i64 r.x1, .int .i64 r.y1]
end Go.Proofs.Ythmfcdefdbeefaa
