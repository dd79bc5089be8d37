/-
  Plain mathematics of lists of int that are encoded by Elias and Fano, of no program: what makes a list good, a row filled from the front. No condition but what each theorem names.
-/
import Derived.Test.YtmlekhgjnhnjlaaDoorFanos
import Derived.Test.YtmlekhgjnhnjlaaDoorLaid
import Derived.Test.YtmlekhgjnhnjlaaDoorPacks
import Derived.Test.YtmlekhgjnhnjlaaDoorSameI
namespace Go.Proofs.YtmlekhgjnhnjlaaDoor
open Go Go.RowKit Words

theorem asInts_get (ns : List Nat) (i : Nat) : (asInts ns)[i]? = (ns[i]?).map fun n : Nat => (n : Int) := by unfold asInts; rw [List.getElem?_map]
theorem asInts_getD (ns : List Nat) (i : Nat) : (asInts ns).getD i 0 = ((ns.getD i 0 : Nat) : Int) := by
  rw [List.getD, List.getD, asInts_get]
  cases ns[i]? <;> rfl

/-- Number i is in the range and not below the one before it. -/
def Good (B : Nat) (l : List Int) (i : Nat) : Prop := 0 ≤ l.getD i 0 ∧ l.getD i 0 ≤ (B : Int) ∧ (0 < i → l.getD (i - 1) 0 ≤ l.getD i 0)
/-- All are. -/
def AllGood (B : Nat) (l : List Int) : Prop := ∀ i, i < l.length → Good B l i

theorem allGood_nats {B : Nat} {l : List Int} (h : AllGood B l) : ∃ ns : List Nat, l = asInts ns ∧ Rises B ns := by
  have hl : l = asInts (l.map Int.toNat) := by
    unfold asInts
    rw [List.map_map]
    apply List.ext_getElem?
    intro i
    rw [List.getElem?_map]
    by_cases hi : i < l.length
    · have := (h i hi).1
      rw [List.getD, List.getElem?_eq_getElem hi] at this
      rw [List.getElem?_eq_getElem hi]
      simp only [Option.map_some, Function.comp_apply, Option.getD_some] at *
      congr 1
      omega
    · rw [List.getElem?_eq_none (by omega)]; rfl
  refine ⟨l.map Int.toNat, hl, ⟨fun i hi => ?_, fun i hi => ?_⟩⟩
  · have := (h i (by simpa using hi)).2.1
    rw [hl, asInts_getD] at this
    exact_mod_cast this
  · have := (h (i + 1) (by simpa using hi)).2.2 (by omega)
    rw [hl, asInts_getD, asInts_getD] at this
    exact_mod_cast this

theorem rises_good {B : Nat} {ns : List Nat} (h : Rises B ns) : AllGood B (asInts ns) := by
  intro i hi
  rw [asInts_length] at hi
  unfold Good
  rw [asInts_getD, asInts_getD]
  refine ⟨by omega, by exact_mod_cast h.le i hi, fun h0 => ?_⟩
  have := h.up (i - 1) (by omega)
  rw [show i - 1 + 1 = i by omega] at this
  exact_mod_cast this

theorem rises_of_good {B : Nat} {ns : List Nat} (h : AllGood B (asInts ns)) : Rises B ns := by
  refine ⟨fun i hi => ?_, fun i hi => ?_⟩
  · have := (h i (by rw [asInts_length]; exact hi)).2.1
    rw [asInts_getD] at this
    exact_mod_cast this
  · have := (h (i + 1) (by rw [asInts_length]; exact hi)).2.2 (by omega)
    rw [asInts_getD, asInts_getD] at this
    exact_mod_cast this

theorem Words.Rises.mem {B : Nat} {ns : List Nat} (h : Rises B ns) : ∀ x ∈ ns, x ≤ B := by
  intro x hx
  obtain ⟨i, hi, rfl⟩ := List.getElem_of_mem hx
  have := h.le i hi
  rwa [List.getD, List.getElem?_eq_getElem hi] at this

/-- The number ahead of place i: 0 at the front. -/
def lst (l : List Int) (i : Nat) : Int := if i = 0 then 0 else l.getD (i - 1) 0

theorem lst_zero (l : List Int) : lst l 0 = 0 := rfl
theorem lst_succ (l : List Int) (i : Nat) (x : Int) (h : l[i]? = some x) : lst l (i + 1) = x := by
  unfold lst
  rw [if_neg (by omega), Nat.add_sub_cancel, List.getD, h]
  rfl
theorem good_iff (B : Nat) (l : List Int) (i : Nat) (x : Int) (h : l[i]? = some x) (h0 : 0 ≤ lst l i) : Good B l i ↔ lst l i ≤ x ∧ x ≤ (B : Int) := by
  unfold Good lst at *
  rw [show l.getD i 0 = x by rw [List.getD, h]; rfl]
  by_cases e : i = 0
  · subst e
    simp
  · rw [if_neg e] at h0 ⊢
    constructor
    · rintro ⟨h1, h2, h3⟩
      exact ⟨h3 (by omega), h2⟩
    · rintro ⟨h1, h2⟩
      exact ⟨by omega, h2, fun _ => h1⟩

/-- A row of z's, of which the first i are already xs's. -/
def fillTo {α : Type} (xs : List α) (z : α) (i : Nat) : List α := xs.take i ++ List.replicate (xs.length - i) z

theorem fillTo_zero {α : Type} (xs : List α) (z : α) : fillTo xs z 0 = List.replicate xs.length z := by simp [fillTo]
theorem fillTo_all {α : Type} (xs : List α) (z : α) : fillTo xs z xs.length = xs := by simp [fillTo]
theorem fillTo_length {α : Type} (xs : List α) (z : α) (i : Nat) (h : i ≤ xs.length) : (fillTo xs z i).length = xs.length := by simp [fillTo]; omega
theorem fillTo_step {α : Type} (xs : List α) (z : α) (i : Nat) (x : α) (h : xs[i]? = some x) : (fillTo xs z i).set i x = fillTo xs z (i + 1) := by
  have hi : i < xs.length := by
    rcases Nat.lt_or_ge i xs.length with h1 | h1
    · exact h1
    · rw [List.getElem?_eq_none h1] at h; cases h
  unfold fillTo
  rw [show xs.length - i = xs.length - (i + 1) + 1 by omega, List.replicate_succ, List.take_add_one, h, List.set_append]
  simp [List.length_take, Nat.min_eq_left (Nat.le_of_lt hi)]

theorem fillTo_at {α : Type} (xs : List α) (z : α) (i : Nat) (h : i < xs.length) : (fillTo xs z i)[i]? = some z := by
  unfold fillTo
  rw [List.getElem?_append_right (by simp; omega), List.getElem?_replicate]
  simp [Nat.min_eq_left (Nat.le_of_lt h)]
  omega

/-- A store into an elder block. -/
theorem setCell_size (w : World) (p : Addr) (u : Value) : (w.setCell p u).heap.size = w.heap.size := by simp
theorem Words64.stored {w : World} {A : Option Addr} {ws : List Nat} (h : Words64 w w.heap.size A ws) {p : Addr} {B' : Nat} (hn : New B' A) (hp : p.block < B') (u : Value) : Words64 (w.setCell p u) (w.setCell p u).heap.size A ws := by
  rw [setCell_size]
  exact h.setCell hn hp u
theorem Lies.stored {w : World} {A : Option Addr} {xs : List Value} (h : Lies w w.heap.size A xs) {p : Addr} {B' : Nat} (hn : New B' A) (hp : p.block < B') (u : Value) : Lies (w.setCell p u) (w.setCell p u).heap.size A xs := by
  rw [setCell_size]
  exact h.setCell hn hp u

/-- The low parts. -/
def flow (d : Nat) (ns : List Nat) : List Nat := ns.map (· % 2 ^ d)
theorem flow_length (d : Nat) (ns : List Nat) : (flow d ns).length = ns.length := by simp [flow]
theorem flow_get (d : Nat) (ns : List Nat) (i x : Nat) (h : ns[i]? = some x) : (flow d ns)[i]? = some (x % 2 ^ d) := by unfold flow; rw [List.getElem?_map, h]; rfl
theorem flow_getD (d : Nat) (ns : List Nat) (i : Nat) : (flow d ns).getD i 0 = ns.getD i 0 % 2 ^ d := by
  unfold flow
  rw [List.getD, List.getD, List.getElem?_map]
  cases ns[i]? <;> simp
theorem flow_lt (d : Nat) (ns : List Nat) : ∀ x ∈ flow d ns, x < 2 ^ d := by
  intro x hx
  obtain ⟨y, _, rfl⟩ := List.mem_map.1 hx
  exact Nat.mod_lt _ (Nat.two_pow_pos d)
end Go.Proofs.YtmlekhgjnhnjlaaDoor
