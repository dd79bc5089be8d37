/-
  A row of the call's own that a function of the library writes whole. No condition but what each theorem names.
-/
import Derived.Test.YtpkclmfadlkbeaaJ01
import Derived.Shelf.Sort.Plain
namespace Go.Proofs.Ytpkclmfadlkbeaa
open Go.RowKit Go.Sort

theorem put_own {w : World} {base : Nat} {e : TypeId} {g cap : Nat} {xs d : List Int} (hown : w.ownsRow base e 1 (.slice (some ⟨g, 0, none⟩) xs.length cap) xs.length (xs.map (.int .i64))) (hd : d.length = xs.length) (m : Nat) (os : Array Obj) :
    (grow (putRow (Value.int .i64) (Sort.ahead w m) g 0 d.toArray) os).ownsRow base e 1 (.slice (some ⟨g, 0, none⟩) xs.length cap) xs.length (d.map (.int .i64)) ∧ w.grownBy (grow (putRow (Value.int .i64) (Sort.ahead w m) g 0 d.toArray) os) (some g) := by
  have hlt := own_lt hown (q := g) rfl
  rcases hown.2 with ⟨h, _⟩ | ⟨g', cap', cur, he, hb, hh, hn, hc, hs, ht⟩
  · cases h
  · simp only [Value.slice.injEq, Option.some.injEq, Addr.mk.injEq, and_true, true_and] at he
    obtain ⟨rfl, rfl⟩ := he
    have hheap : ∀ k, (putRow (Value.int .i64) (Sort.ahead w m) g 0 d.toArray).heap[k]? = if k = g then some (.cells (putCells (Value.int .i64) 0 d.toArray cur) e (0, 0)) else w.heap[k]? := by
      intro k
      unfold putRow mapBlock
      rw [Array.getElem?_modify]
      show (if g = k then (w.heap[k]?).map _ else w.heap[k]?) = _
      by_cases hk : g = k
      · subst hk
        rw [if_pos rfl, if_pos rfl, hh]
        rfl
      · rw [if_neg hk, if_neg (Ne.symm hk)]
    have hsz : (putRow (Value.int .i64) (Sort.ahead w m) g 0 d.toArray).heap.size = w.heap.size := by rw [size_putRow]; rfl
    refine ⟨⟨by simp [hd], .inr ⟨g, cap, putCells (Value.int .i64) 0 d.toArray cur, rfl, hb, ?_, hn, hc, by simp [putCells, hs], ?_⟩⟩, ⟨rfl, rfl, rfl, by rw [size_grow, hsz]; omega, fun k hk hne => ?_⟩⟩
    · rw [heap_grow_old _ _ (by rw [hsz]; exact hlt), hheap, if_pos rfl]
    · apply List.ext_getElem?
      intro k
      rw [List.getElem?_take]
      by_cases hk : k < xs.length
      · have hkc : k < cur.size := by rw [hs]; omega
        rw [if_pos (by omega), Array.getElem?_toList, putCells, Array.getElem?_mapIdx, Array.getElem?_eq_getElem hkc, List.getElem?_map, List.getElem?_eq_getElem (show k < d.length by omega)]
        have hkd : k < d.toArray.size := by simp; omega
        simp only [Option.map_some, Nat.zero_le, true_and, Nat.zero_add, if_pos hkd, Nat.sub_zero]
        rw [getElem!_pos d.toArray k hkd]
        simp
      · rw [if_neg (by omega), List.getElem?_eq_none (by simp; omega)]
    · rw [heap_grow_old _ _ (by rw [hsz]; exact hk), hheap, if_neg (fun e => hne (by rw [e]))]

theorem holds_own {w : World} {base : Nat} {e : TypeId} {g cap : Nat} {xs : List Int} (hown : w.ownsRow base e 1 (.slice (some ⟨g, 0, none⟩) xs.length cap) xs.length (xs.map (.int .i64))) : Holds (Value.int .i64) w g 0 xs.toArray := by
  intro j hj
  have hj2 : j < xs.length := by simpa using hj
  rw [Nat.zero_add]
  refine ⟨?_, hown.frozenAt j⟩
  rw [hown.cellAt j (by omega), List.getElem?_map, List.getElem?_eq_getElem hj2, getElem!_pos xs.toArray j hj]
  simp

/-- The row of the call's own, cut. -/
theorem own_cut {w : World} {base : Nat} {e : TypeId} {g n c m : Nat} {xs : List Value} (h : w.ownsRow base e 1 (.slice (some ⟨g, 0, none⟩) n c) n xs) (hm : m ≤ n) : w.ownsRow base e 1 (.slice (some ⟨g, 0, none⟩) m c) m (xs.take m) := by
  have hl := h.1
  rcases h.2 with ⟨hv, _⟩ | ⟨g', cap, cur, hv, hb, hh, hn, hc, hs, hx⟩
  · cases hv
  · injection hv with h1 _ h2
    obtain rfl : g = g' := by injection h1 with h1; injection h1
    subst h2
    refine ⟨by rw [List.length_take]; omega, .inr ⟨g, c, cur, rfl, hb, hh, by omega, hc, hs, ?_⟩⟩
    rw [← hx, List.take_take, Nat.mul_one, Nat.mul_one, Nat.min_eq_left hm]
end Go.Proofs.Ytpkclmfadlkbeaa
