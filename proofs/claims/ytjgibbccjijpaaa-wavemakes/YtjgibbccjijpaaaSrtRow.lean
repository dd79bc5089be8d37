/-
  A row of the call's own that the library's sort.Ints sorts; a part of a slice; plain mathematics of sorted lists. No condition but what each theorem names.
-/
import Derived.Test.YtjgibbccjijpaaaSorts
import Derived.Test.YtjgibbccjijpaaaOwnRow
import Derived.Test.YtjgibbccjijpaaaWords
namespace Go.Proofs.Ytjgibbccjijpaaa
open Go.RowKit Go.Sort Words

/-- The sorted list. -/
def srt (l : List Int) : List Int := l.mergeSort fun x y => decide (x ≤ y)
theorem srt_perm (l : List Int) : (srt l).Perm l := List.mergeSort_perm _ _
theorem srt_length (l : List Int) : (srt l).length = l.length := (srt_perm l).length_eq
theorem srt_sorted (l : List Int) : (srt l).Pairwise (· ≤ ·) := by
  have h := List.pairwise_mergeSort (le := fun x y : Int => decide (x ≤ y)) (fun a b c h1 h2 => by simp only [decide_eq_true_eq] at *; omega) (fun a b => by simp only [Bool.or_eq_true, decide_eq_true_eq]; omega) l
  exact h.imp (fun h => by simpa using h)

theorem put_own {w : World} {base : Nat} {e : TypeId} {g cap : Nat} {xs d : List Int} (hown : w.ownsRow base e 1 (.slice (some ⟨g, 0, none⟩) xs.length cap) xs.length (xs.map (.int .i64))) (hd : d.length = xs.length) (m : Nat) (os : Array Obj) :
    (grow (putRow (Value.int .i64) (Sort.ahead w m) g 0 d.toArray) os).ownsRow base e 1 (.slice (some ⟨g, 0, none⟩) xs.length cap) xs.length (d.map (.int .i64)) ∧ w.grownBy (grow (putRow (Value.int .i64) (Sort.ahead w m) g 0 d.toArray) os) (some g) := by
  have hlt := own_lt hown (q := g) rfl
  rcases hown.2 with ⟨h, _⟩ | ⟨g', cap', cur, he, hb, hh, hn, hc, hs, ht⟩
  · cases h
  · simp only [Value.slice.injEq, Option.some.injEq, Addr.mk.injEq, and_true, true_and] at he
    obtain ⟨rfl, rfl⟩ := he
    have hheap : ∀ k, (putRow (Value.int .i64) (Sort.ahead w m) g 0 d.toArray).heap[k]? = if k = g then some (.cells (putCells (Value.int .i64) 0 d.toArray cur) e (0, 0)) else w.heap[k]? := by
      intro k
      unfold putRow mapBlock
      rw [Array.getElem?_modify]
      show (if g = k then (w.heap[k]?).map _ else w.heap[k]?) = _
      by_cases hk : g = k
      · subst hk
        rw [if_pos rfl, if_pos rfl, hh]
        rfl
      · rw [if_neg hk, if_neg (Ne.symm hk)]
    have hsz : (putRow (Value.int .i64) (Sort.ahead w m) g 0 d.toArray).heap.size = w.heap.size := by rw [size_putRow]; rfl
    refine ⟨⟨by simp [hd], .inr ⟨g, cap, putCells (Value.int .i64) 0 d.toArray cur, rfl, hb, ?_, hn, hc, by simp [putCells, hs], ?_⟩⟩, ⟨rfl, rfl, rfl, by rw [size_grow, hsz]; omega, fun k hk hne => ?_⟩⟩
    · rw [heap_grow_old _ _ (by rw [hsz]; exact hlt), hheap, if_pos rfl]
    · apply List.ext_getElem?
      intro k
      rw [List.getElem?_take]
      by_cases hk : k < xs.length
      · have hkc : k < cur.size := by rw [hs]; omega
        rw [if_pos (by omega), Array.getElem?_toList, putCells, Array.getElem?_mapIdx, Array.getElem?_eq_getElem hkc, List.getElem?_map, List.getElem?_eq_getElem (show k < d.length by omega)]
        have hkd : k < d.toArray.size := by simp; omega
        simp only [Option.map_some, Nat.zero_le, true_and, Nat.zero_add, if_pos hkd, Nat.sub_zero]
        rw [getElem!_pos d.toArray k hkd]
        simp
      · rw [if_neg (by omega), List.getElem?_eq_none (by simp; omega)]
    · rw [heap_grow_old _ _ (by rw [hsz]; exact hk), hheap, if_neg (fun e => hne (by rw [e]))]

theorem holds_own {w : World} {base : Nat} {e : TypeId} {g cap : Nat} {xs : List Int} (hown : w.ownsRow base e 1 (.slice (some ⟨g, 0, none⟩) xs.length cap) xs.length (xs.map (.int .i64))) : Holds (Value.int .i64) w g 0 xs.toArray := by
  intro j hj
  have hj2 : j < xs.length := by simpa using hj
  rw [Nat.zero_add]
  refine ⟨?_, hown.frozenAt j⟩
  rw [hown.cellAt j (by omega), List.getElem?_map, List.getElem?_eq_getElem hj2, getElem!_pos xs.toArray j hj]
  simp

/-- sort.Ints of a row of the call's own. -/
theorem sortInts_own (base : Nat) (v : Value) (zs : List Int) (w : World) (hown : w.ownsRow base 3 1 v zs.length (zs.map (.int .i64))) (hn : zs.length ≤ 1000000) :
    Calls Try.prog 78 #[v] w fun e w' => e = .returned (.tuple #[]) ∧ w'.ownsRow base 3 1 v zs.length ((srt zs).map (.int .i64)) ∧ w.grownBy w' v.ownBlock := by
  have hlt := fun q hq => own_lt hown (q := q) hq
  rcases hown.2 with ⟨rfl, h0⟩ | ⟨g, cap, cur, rfl, _⟩
  · have hz : zs = [] := List.eq_nil_of_length_eq_zero h0
    subst hz
    exact (Try.sort_Ints_none none 0 w).mono fun _ _ ⟨he, hw⟩ => by subst hw; exact ⟨he, by rw [show srt [] = [] from List.eq_nil_of_length_eq_zero (srt_length [])]; exact hown, rfl, rfl, rfl, Nat.le_refl _, fun _ _ _ => rfl⟩
  · exact (Try.sort_Ints g 0 cap zs w (holds_own hown) (hlt g rfl) (by omega)).mono fun _ _ ⟨he, m, os, hw⟩ => by
      subst hw
      have h := put_own hown (srt_length zs) m os
      exact ⟨he, h.1, h.2⟩

theorem cells_one (l : List Int) : ∀ u ∈ l.map (Value.int .i64), u.oneCell' = true := by
  intro u hu
  obtain ⟨_, _, rfl⟩ := List.mem_map.1 hu
  rfl

/-- A part of a slice. -/
theorem slice_row {P : Program} (t : TypeId) (ht : P.underlying t = some (.slice (P.elem t))) (hsz : ∀ W, (sizeOf (P.elem t)).run P W = .ok 1 W) {w : World} {B : Nat} {A : Option Addr} {n c a b : Nat} {xs : List Value} (h1 : a ≤ b) (h2 : b ≤ n) (hnc : n ≤ c) (hL : Lies w B A xs) (hn : xs.length = n) (hnone : A = none → c = 0) :
    ∃ A3, (∀ W, (Instr.slice t (.slice A n c) (some (.int .i64 (a : Int))) (some (.int .i64 (b : Int))) none).run P W = .ok (.slice A3 (b - a) (c - a)) W) ∧ Lies w B A3 ((xs.drop a).take (b - a)) ∧ (A3 = none → c - a = 0) := by
  refine ⟨if c = a then A else A.map (·.add (a * 1)), fun W => ?_, ?_, ?_⟩
  · rw [run_slice_lh W t A n c ht .i64 .i64 (a : Int) (b : Int) (by omega) (by omega) (by omega), hsz]
    rfl
  · intro hne
    have hab : a < b := by
      rcases Nat.lt_or_ge a b with h | h
      · exact h
      · exact absurd (by rw [show b - a = 0 by omega, List.take_zero]) hne
    obtain ⟨bk, o, e, hb, hc⟩ := hL (by intro e; subst e; simp at hn; omega)
    subst e
    rw [if_neg (by omega)]
    refine ⟨bk, o + a * 1, by rw [Option.map_some, Addr.add_lit], hb, fun j v hv => ?_⟩
    rw [List.getElem?_take] at hv
    split at hv
    · rw [List.getElem?_drop] at hv
      have := hc (a + j) v hv
      rwa [show o + a * 1 + j = o + (a + j) by omega]
    · cases hv
  · intro e
    by_cases hca : c = a
    · omega
    · rw [if_neg hca] at e
      cases A with
      | none => have := hnone rfl; omega
      | some ad => cases e
end Go.Proofs.Ytjgibbccjijpaaa
