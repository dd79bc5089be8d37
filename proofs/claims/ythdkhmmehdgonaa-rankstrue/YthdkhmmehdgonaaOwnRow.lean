/-
  Words for memory, of no program: rows that a call owns, where other blocks are made or written. No condition but what each theorem names.
-/
import Derived.Test.YthdkhmmehdgonaaMem
namespace Go.Proofs.Ythdkhmmehdgonaa
open Go.RowKit

/-- A row of a call's own, where its block stays. -/
theorem own_keep {w w' : World} {base : Nat} {e : TypeId} {v : Value} {n : Nat} {xs : List Value} (h : w.ownsRow base e 1 v n xs) (hk : ∀ q, v.ownBlock = some q → w'.heap[q]? = w.heap[q]?) : w'.ownsRow base e 1 v n xs := by
  refine ⟨h.1, ?_⟩
  rcases h.2 with ⟨rfl, hn⟩ | ⟨g, cap, cur, rfl, hb, hh, hr⟩
  · exact .inl ⟨rfl, hn⟩
  · exact .inr ⟨g, cap, cur, rfl, hb, (hk g rfl).trans hh, hr⟩
/-- Its block, and what kind of block it is. -/
theorem own_kind {w : World} {base : Nat} {e : TypeId} {v : Value} {n : Nat} {xs : List Value} (h : w.ownsRow base e 1 v n xs) {q : Nat} (hq : v.ownBlock = some q) : ∃ cur, w.heap[q]? = some (.cells cur e (0, 0)) := by
  rcases h.2 with ⟨rfl, hn⟩ | ⟨g, cap, cur, rfl, hb, hh, hr⟩
  · cases hq
  · obtain rfl := Option.some.inj hq
    exact ⟨cur, hh⟩
theorem own_lt {w : World} {base : Nat} {e : TypeId} {v : Value} {n : Nat} {xs : List Value} (h : w.ownsRow base e 1 v n xs) {q : Nat} (hq : v.ownBlock = some q) : q < w.heap.size := by
  obtain ⟨cur, hh⟩ := own_kind h hq
  rcases Nat.lt_or_ge q w.heap.size with h1 | h1
  · exact h1
  · rw [Array.getElem?_eq_none h1] at hh; cases hh
theorem own_below {w w' : World} {base B : Nat} {e : TypeId} {v : Value} {n : Nat} {xs : List Value} (h : w.ownsRow base e 1 v n xs) (hb : Below B w w') (hB : w.heap.size ≤ B) : w'.ownsRow base e 1 v n xs :=
  own_keep h fun q hq => hb.block q (Nat.lt_of_lt_of_le (own_lt h hq) hB)
theorem own_base {w : World} {base B : Nat} {e : TypeId} {v : Value} {n : Nat} {xs : List Value} (h : w.ownsRow base e 1 v n xs) (hB : B ≤ base) : w.ownsRow B e 1 v n xs := by
  refine ⟨h.1, ?_⟩
  rcases h.2 with ⟨rfl, hn⟩ | ⟨g, cap, cur, rfl, hb, hr⟩
  · exact .inl ⟨rfl, hn⟩
  · exact .inr ⟨g, cap, cur, rfl, by omega, hr⟩
/-- Beside a row of another kind that grows. -/
theorem own_beside {w w' : World} {base B : Nat} {e e2 : TypeId} {v u : Value} {n m : Nat} {xs ys : List Value} (h : w.ownsRow base e 1 v n xs) (k : w.ownsRow B e2 1 u m ys) (hne : e ≠ e2) (hg : w.grownBy w' u.ownBlock) : w'.ownsRow base e 1 v n xs :=
  own_keep h fun q hq => hg.block q (own_lt h hq) fun e' => by
    obtain ⟨c1, h1⟩ := own_kind h hq
    obtain ⟨c2, h2⟩ := own_kind k e'.symm
    rw [h1] at h2
    injection h2 with h2
    injection h2 with _ h3
    exact hne h3
/-- A block that 'make' laid and that was filled. -/
theorem Blk.owns {w : World} {g : Nat} {e : TypeId} {xs : List Value} (h : Blk w g e xs) {base : Nat} (hb : base ≤ g) (hn : xs.length ≤ maxLen) : w.ownsRow base e 1 (.slice (some ⟨g, 0, none⟩) xs.length xs.length) xs.length xs :=
  ⟨by simp, .inr ⟨g, xs.length, xs.toArray, rfl, hb, h, Nat.le_refl _, hn, by simp, by simp⟩⟩

/-- A row of z's, of which the first i are already xs's. -/
def fillR {α : Type} (xs : List α) (z : α) (i : Nat) : List α := xs.take i ++ List.replicate (xs.length - i) z
theorem fillR_zero {α : Type} (xs : List α) (z : α) : fillR xs z 0 = List.replicate xs.length z := by simp [fillR]
theorem fillR_all {α : Type} (xs : List α) (z : α) : fillR xs z xs.length = xs := by simp [fillR]
theorem fillR_step {α : Type} (xs : List α) (z : α) (i : Nat) (x : α) (h : xs[i]? = some x) : (fillR xs z i).set i x = fillR xs z (i + 1) := by
  have hi : i < xs.length := by
    rcases Nat.lt_or_ge i xs.length with h1 | h1
    · exact h1
    · rw [List.getElem?_eq_none h1] at h; cases h
  unfold fillR
  rw [show xs.length - i = xs.length - (i + 1) + 1 by omega, List.replicate_succ, List.take_add_one, h, List.set_append]
  simp [List.length_take, Nat.min_eq_left (Nat.le_of_lt hi)]
theorem fillR_at {α : Type} (xs : List α) (z : α) (i : Nat) (h : i < xs.length) : (fillR xs z i)[i]? = some z := by
  unfold fillR
  rw [List.getElem?_append_right (by simp; omega), List.getElem?_replicate]
  simp [Nat.min_eq_left (Nat.le_of_lt h)]
  omega

/-- A row of the call's own that is not empty has a block. -/
theorem own_at {w : World} {base : Nat} {e : TypeId} {A : Option Addr} {n m c : Nat} {xs : List Value} (h : w.ownsRow base e 1 (.slice A m c) n xs) (hn : 0 < n) : ∃ g, A = some ⟨g, 0, none⟩ ∧ base ≤ g := by
  rcases h.2 with ⟨_, h0⟩ | ⟨g, cap, cur, hv, hb, _⟩
  · omega
  · injection hv with h1
    exact ⟨g, h1, hb⟩
/-- A store into it. -/
theorem own_put {w : World} {base : Nat} {e : TypeId} {g n c : Nat} {xs : List Value} (h : w.ownsRow base e 1 (.slice (some ⟨g, 0, none⟩) n c) n xs) (i : Nat) (u : Value) : (w.setCell ⟨g, i, none⟩ u).ownsRow base e 1 (.slice (some ⟨g, 0, none⟩) n c) n (xs.set i u) := by
  refine ⟨by rw [List.length_set]; exact h.1, ?_⟩
  rcases h.2 with ⟨hv, _⟩ | ⟨g', cap, cur, hv, hb, hh, hn, hm, hs, hx⟩
  · cases hv
  · injection hv with h1 _ h2
    obtain rfl : g = g' := by injection h1 with h1; injection h1
    subst h2
    have hB : Blk w g e cur.toList := by unfold Blk; rw [Array.toArray_toList]; exact hh
    refine .inr ⟨g, c, (cur.toList.set i u).toArray, rfl, hb, hB.put i u, hn, hm, by simpa using hs, ?_⟩
    rw [← hx]
    simp [List.take_set]
theorem own_cell {w : World} {base : Nat} {e : TypeId} {g n c : Nat} {xs : List Value} (h : w.ownsRow base e 1 (.slice (some ⟨g, 0, none⟩) n c) n xs) {i : Nat} {v : Value} (hv : xs[i]? = some v) : w.cell? ⟨g, i, none⟩ = some v := by
  have := h.cells (g := g) rfl i v hv
  rwa [Addr.add_lit, Nat.zero_add] at this
theorem own_frozen {w : World} {base : Nat} {e : TypeId} {g n c : Nat} {xs : List Value} (h : w.ownsRow base e 1 (.slice (some ⟨g, 0, none⟩) n c) n xs) (i : Nat) : w.frozen? ⟨g, i, none⟩ = false := by
  rcases h.2 with ⟨hv, _⟩ | ⟨g', cap, cur, hv, _, hh, _⟩
  · cases hv
  · injection hv with h1
    obtain rfl : g = g' := by injection h1 with h1; injection h1
    have hB : Blk w g e cur.toList := by unfold Blk; rw [Array.toArray_toList]; exact hh
    exact hB.frozen i
end Go.Proofs.Ythdkhmmehdgonaa
