/-
  What slices.Clone of a list of int, fen.Make, fen.Add and fen.Sum return: contracts, walked over the translated text. No condition but what each theorem names.
-/
import Derived.Test.YtefgfkicacbmeaaFenRd
namespace Go.Proofs.Ytefgfkicacbmeaa
open Go.RowKit Words

theorem fint_info : (Try.prog.info? 3).map (fun i => (i.zero, i.size, i.bytes)) = some (some (.int .i64 0), 1, 8) := by kernel_rfl

/-- The numbers f 0 .. f (n - 1), as cells. -/
def cellsOf (f : Nat → Int) (n : Nat) : List Value := (vals f n).map (.int .i64)
theorem cellsOf_length (f : Nat → Int) (n : Nat) : (cellsOf f n).length = n := by unfold cellsOf; rw [List.length_map, vals_length]
theorem cellsOf_get (f : Nat → Int) (n i : Nat) (h : i < n) : (cellsOf f n)[i]? = some (.int .i64 (f i)) := by unfold cellsOf; rw [List.getElem?_map, vals_get _ _ _ h]; rfl
theorem cellsOf_set (f : Nat → Int) (n i : Nat) (v : Int) : (cellsOf f n).set i (.int .i64 v) = cellsOf (upd f i v) n := by unfold cellsOf; rw [← vals_set, List.map_set]
theorem cellsOf_congr {f g : Nat → Int} (n : Nat) (h : ∀ j, j < n → f j = g j) : cellsOf f n = cellsOf g n := by unfold cellsOf; rw [vals_congr n h]
theorem cellsOf_at0 (l : List Int) : cellsOf (at0 l) l.length = l.map (.int .i64) := by unfold cellsOf; rw [vals_at0]
theorem cellsOf_one (f : Nat → Int) (n : Nat) : ∀ u ∈ cellsOf f n, u.oneCell' = true := by
  intro u hu
  obtain ⟨_, _, rfl⟩ := List.mem_map.1 hu
  rfl

/-- A row of the call's own that is not empty has a block. -/
theorem own_at {w : World} {base : Nat} {e : TypeId} {A : Option Addr} {n m c : Nat} {xs : List Value} (h : w.ownsRow base e 1 (.slice A m c) n xs) (hn : 0 < n) : ∃ g, A = some ⟨g, 0, none⟩ ∧ base ≤ g := by
  rcases h.2 with ⟨_, h0⟩ | ⟨g, cap, cur, hv, hb, _⟩
  · omega
  · injection hv with h1
    exact ⟨g, h1, hb⟩
/-- A store into it. -/
theorem own_put {w : World} {base : Nat} {e : TypeId} {g n c : Nat} {xs : List Value} (h : w.ownsRow base e 1 (.slice (some ⟨g, 0, none⟩) n c) n xs) (i : Nat) (u : Value) : (w.setCell ⟨g, i, none⟩ u).ownsRow base e 1 (.slice (some ⟨g, 0, none⟩) n c) n (xs.set i u) := by
  refine ⟨by rw [List.length_set]; exact h.1, ?_⟩
  rcases h.2 with ⟨hv, _⟩ | ⟨g', cap, cur, hv, hb, hh, hn, hm, hs, hx⟩
  · cases hv
  · injection hv with h1 _ h2
    obtain rfl : g = g' := by injection h1 with h1; injection h1
    subst h2
    have hB : Blk w g e cur.toList := by unfold Blk; rw [Array.toArray_toList]; exact hh
    refine .inr ⟨g, c, (cur.toList.set i u).toArray, rfl, hb, hB.put i u, hn, hm, by simpa using hs, ?_⟩
    rw [← hx]
    simp [List.take_set]
theorem own_cell {w : World} {base : Nat} {e : TypeId} {g n c : Nat} {xs : List Value} (h : w.ownsRow base e 1 (.slice (some ⟨g, 0, none⟩) n c) n xs) {i : Nat} {v : Value} (hv : xs[i]? = some v) : w.cell? ⟨g, i, none⟩ = some v := by
  have := h.cells (g := g) rfl i v hv
  rwa [Addr.add_lit, Nat.zero_add] at this
theorem own_frozen {w : World} {base : Nat} {e : TypeId} {g n c : Nat} {xs : List Value} (h : w.ownsRow base e 1 (.slice (some ⟨g, 0, none⟩) n c) n xs) (i : Nat) : w.frozen? ⟨g, i, none⟩ = false := by
  rcases h.2 with ⟨hv, _⟩ | ⟨g', cap, cur, hv, _, hh, _⟩
  · cases hv
  · injection hv with h1
    obtain rfl : g = g' := by injection h1 with h1; injection h1
    have hB : Blk w g e cur.toList := by unfold Blk; rw [Array.toArray_toList]; exact hh
    exact hB.frozen i

theorem own_lower {w : World} {base B : Nat} {e : TypeId} {v : Value} {n : Nat} {xs : List Value} (h : w.ownsRow base e 1 v n xs) (hB : B ≤ base) : w.ownsRow B e 1 v n xs := by
  refine ⟨h.1, ?_⟩
  rcases h.2 with ⟨rfl, hn⟩ | ⟨g, cap, cur, rfl, hb, hr⟩
  · exact .inl ⟨rfl, hn⟩
  · exact .inr ⟨g, cap, cur, rfl, by omega, hr⟩
/-- A new block without cells. -/
theorem Blk.owns0 {w : World} {g : Nat} {e : TypeId} (h : Blk w g e []) {base : Nat} (hb : base ≤ g) : w.ownsRow base e 1 (.slice (some ⟨g, 0, none⟩) 0 0) 0 [] :=
  ⟨rfl, .inr ⟨g, 0, #[], rfl, hb, h, Nat.le_refl _, Nat.zero_le _, rfl, rfl⟩⟩

/-- What a call that returns a new row of int, its caller's own, leaves. -/
def GivesF (w : World) (f : Nat → Int) (n : Nat) (e : Ending) (w' : World) : Prop := ∃ A c, e = .returned (.slice A n c) ∧ w'.ownsRow w.heap.size 3 1 (.slice A n c) n (cellsOf f n) ∧ Below w.heap.size w w'
/-- A list and OK; no list and an error. -/
def GivesT (w : World) (f : Nat → Int) (n : Nat) (e : Ending) (w' : World) : Prop := ∃ A c, e = .returned (.tuple #[.slice A n c, .int .i64 0]) ∧ Lies w' w'.heap.size A (cellsOf f n) ∧ (A = none → c = 0) ∧ New w.heap.size A ∧ Below w.heap.size w w'
def NoT (w : World) (r : Int) (e : Ending) (w' : World) : Prop := e = .returned (.tuple #[.slice none 0 0, .int .i64 r]) ∧ Below w.heap.size w w'

theorem own_gives {w w' : World} {f : Nat → Int} {n c : Nat} {A : Option Addr} (h : w'.ownsRow w.heap.size 3 1 (.slice A n c) n (cellsOf f n)) (hb : Below w.heap.size w w') : GivesT w f n (.returned (.tuple #[.slice A n c, .int .i64 0])) w' := by
  obtain ⟨A', c', e, _, _, hl, hnone, hnew⟩ := own_slice h
  injection e with e1 _ e2
  subst e1 e2
  exact ⟨A, c, rfl, hl, hnone, hnew, hb⟩

end Go.Proofs.Ytefgfkicacbmeaa
