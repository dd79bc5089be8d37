/-
  The memory of damaskkeep.SegTurned's first loop: operations that are made additions one by one, and the same in the other order. No condition but what each theorem names.
-/
import Derived.Test.YtnjpehgmlfenbaaSegLaw
namespace Go.Proofs.Ytnjpehgmlfenbaa
open Go.RowKit Words

/-- An operation, made an addition. -/
def add1 (o : Op9) : Op9 := ⟨1, o.lo, o.hi, o.by_⟩
/-- The first i made additions; these in the other order. -/
def mixed (os : List Op9) (i : Nat) : List Op9 := (os.take i).map add1 ++ os.drop i
def revd (os : List Op9) (i : Nat) : List Op9 := ((os.take i).map add1).reverse

theorem mixed_length (os : List Op9) (i : Nat) (h : i ≤ os.length) : (mixed os i).length = os.length := by
  unfold mixed
  rw [List.length_append, List.length_map, List.length_take, List.length_drop]
  omega
theorem mixed_zero (os : List Op9) : mixed os 0 = os := rfl
theorem mixed_all (os : List Op9) : mixed os os.length = os.map add1 := by
  unfold mixed
  rw [List.take_of_length_le (Nat.le_refl _), List.drop_length, List.append_nil]
theorem revd_length (os : List Op9) (i : Nat) (h : i ≤ os.length) : (revd os i).length = i := by
  unfold revd
  rw [List.length_reverse, List.length_map, List.length_take]
  omega
theorem revd_all (os : List Op9) : revd os os.length = (os.map add1).reverse := by
  unfold revd
  rw [List.take_of_length_le (Nat.le_refl _)]
theorem revd_step {os : List Op9} {i : Nat} {o : Op9} (h : os[i]? = some o) : revd os (i + 1) = add1 o :: revd os i := by
  unfold revd
  rw [List.take_add_one, h, List.map_append, List.reverse_append]
  rfl
theorem mixed_get (os : List Op9) (i j : Nat) (h : i ≤ os.length) : (mixed os i)[j]? = if j < i then os[j]?.map add1 else os[j]? := by
  unfold mixed
  by_cases hj : j < i
  · rw [if_pos hj, List.getElem?_append_left (by rw [List.length_map, List.length_take]; omega), List.getElem?_map, List.getElem?_take, if_pos hj]
  · rw [if_neg hj, List.getElem?_append_right (by rw [List.length_map, List.length_take]; omega), List.length_map, List.length_take, List.getElem?_drop]
    congr 1
    omega
theorem mixed_step {os : List Op9} {i : Nat} {o : Op9} (h : os[i]? = some o) : (mixed os i).set i (add1 o) = mixed os (i + 1) := by
  have hi : i < os.length := (List.getElem?_eq_some_iff.1 h).1
  apply List.ext_getElem?
  intro j
  rw [mixed_get os (i + 1) j (by omega)]
  by_cases e : j = i
  · subst e
    rw [List.getElem?_set_self (by rw [mixed_length os j (by omega)]; exact hi), if_pos (by omega), h]
    rfl
  · rw [List.getElem?_set_ne (by omega), mixed_get os i j (by omega)]
    by_cases c : j < i
    · rw [if_pos c, if_pos (by omega)]
    · rw [if_neg c, if_neg (by omega)]
theorem opsC_set : ∀ (os : List Op9) (i : Nat) (o : Op9), os[i]? = some o → (opsC os).set (i * 4) (.int .i64 1) = opsC (os.set i (add1 o))
  | [], _, _, h => by simp at h
  | a :: r, 0, o, h => by
    obtain rfl : a = o := by simpa using h
    rfl
  | a :: r, i + 1, o, h => by
    show (a.cells ++ opsC r).set ((i + 1) * 4) (.int .i64 1) = a.cells ++ opsC (r.set i (add1 o))
    rw [← opsC_set r i o (by simpa using h), List.set_append_right _ _ (by show 4 ≤ (i + 1) * 4; omega)]
    congr 2
    show (i + 1) * 4 - 4 = i * 4
    omega
theorem mixed_cells {os : List Op9} {i : Nat} {o : Op9} (h : os[i]? = some o) : (opsC (mixed os i)).set (i * 4) (.int .i64 1) = opsC (mixed os (i + 1)) := by
  have hi : i < os.length := (List.getElem?_eq_some_iff.1 h).1
  rw [opsC_set (mixed os i) i o (by rw [mixed_get os i i (by omega), if_neg (Nat.lt_irrefl _)]; exact h), mixed_step h]

theorem own_frozen_n {w : World} {base sz : Nat} {e : TypeId} {g n c : Nat} {xs : List Value} (h : w.ownsRow base e sz (.slice (some ⟨g, 0, none⟩) n c) n xs) (i : Nat) : w.frozen? ⟨g, i, none⟩ = false := by
  rcases h.2 with ⟨hv, _⟩ | ⟨g', cap, cur, hv, _, hh, _⟩
  · cases hv
  · injection hv with h1
    obtain rfl : g = g' := by injection h1 with h1; injection h1
    have hB : Blk w g e cur.toList := by unfold Blk; rw [Array.toArray_toList]; exact hh
    exact hB.frozen i
theorem own_cell_n {w : World} {base sz : Nat} {e : TypeId} {g n c : Nat} {xs : List Value} (h : w.ownsRow base e sz (.slice (some ⟨g, 0, none⟩) n c) n xs) {i : Nat} {v : Value} (hv : xs[i]? = some v) : w.cell? ⟨g, i, none⟩ = some v := by
  have := h.cells (g := g) rfl i v hv
  rwa [Addr.add_lit, Nat.zero_add] at this
theorem own_put_n {w : World} {base sz : Nat} {e : TypeId} {g n c : Nat} {xs : List Value} (h : w.ownsRow base e sz (.slice (some ⟨g, 0, none⟩) n c) n xs) (i : Nat) (u : Value) : (w.setCell ⟨g, i, none⟩ u).ownsRow base e sz (.slice (some ⟨g, 0, none⟩) n c) n (xs.set i u) := by
  refine ⟨by rw [List.length_set]; exact h.1, ?_⟩
  rcases h.2 with ⟨hv, _⟩ | ⟨g', cap, cur, hv, hb, hh, hn, hm, hs, hx⟩
  · cases hv
  · injection hv with h1 _ h2
    obtain rfl : g = g' := by injection h1 with h1; injection h1
    subst h2
    have hB : Blk w g e cur.toList := by unfold Blk; rw [Array.toArray_toList]; exact hh
    refine .inr ⟨g, c, (cur.toList.set i u).toArray, rfl, hb, hB.put i u, hn, hm, by simpa using hs, ?_⟩
    rw [← hx]
    simp [List.take_set]
theorem own_at_n {w : World} {base sz : Nat} {e : TypeId} {A : Option Addr} {n m c : Nat} {xs : List Value} (h : w.ownsRow base e sz (.slice A m c) n xs) (hn : 0 < n) : ∃ g, A = some ⟨g, 0, none⟩ ∧ base ≤ g ∧ g < w.heap.size := by
  rcases h.2 with ⟨_, h0⟩ | ⟨g, cap, cur, hv, hb, hh, _⟩
  · omega
  · injection hv with h1
    refine ⟨g, h1, hb, ?_⟩
    rcases Nat.lt_or_ge g w.heap.size with h2 | h2
    · exact h2
    · rw [Array.getElem?_eq_none h2] at hh; cases hh
/-- A new slice of one struct of four cells is its maker's own. -/
theorem new_own (w : World) (e : TypeId) (a b c d : Value) (base : Nat) (hb : base ≤ w.heap.size) : (w.alloc (.cells #[a, b, c, d] e)).ownsRow base e 4 (.slice (some ⟨w.heap.size, 0, none⟩) 1 1) 1 [a, b, c, d] :=
  ⟨rfl, .inr ⟨w.heap.size, 1, #[a, b, c, d], rfl, hb, Blk.new w e [a, b, c, d], Nat.le_refl _, by simp only [maxLen]; omega, rfl, rfl⟩⟩

theorem own_of {B : Option Addr} {n c q : Nat} (h : (Value.slice B n c).ownBlock = some q) : ∃ ad, B = some ad ∧ ad.block = q := by
  cases B with
  | none => cases h
  | some ad => exact ⟨ad, rfl, Option.some.inj h⟩
/-- A slice in newer memory than a row that grows. -/
theorem Lies.gby {w w' : World} {A : Option Addr} {xs : List Value} {row : Option Nat} {N : Nat} (h : Lies w w.heap.size A xs) (hn : New N A) (hr : ∀ q, row = some q → q < N) (hg : w.grownBy w' row) : Lies w' w'.heap.size A xs := fun hne => by
  obtain ⟨b, o, e, hb, hc⟩ := h hne
  have hN := hn _ e
  have hN2 : N ≤ b := hN
  have hbk : w'.heap[b]? = w.heap[b]? := hg.block b hb (fun e2 => by have := hr b e2.symm; omega)
  refine ⟨b, o, e, Nat.lt_of_lt_of_le hb hg.size, fun j v hv => ?_⟩
  rw [World.cell?_of_block (a := ⟨b, o + j, none⟩) hbk]
  exact hc j v hv

/-- The memory ahead of operation i. -/
structure TuAt (v3 v4 : World) (os : List Op9) (B8 : Option Addr) (ol d8 : Nat) (i : Nat) (v : Value) (w : World) : Prop where
  ops : w.ownsRow v3.heap.size 39 4 (.slice B8 ol d8) ol (opsC (mixed os i))
  back : w.ownsRow v4.heap.size 39 4 v i (opsC (revd os i))
  old : ∀ ad, B8 = some ad → ad.block < v4.heap.size
  zw : v4.heap.size ≤ w.heap.size
  z34 : v3.heap.size ≤ v4.heap.size
  bel : Below v3.heap.size v3 w
end Go.Proofs.Ytnjpehgmlfenbaa
