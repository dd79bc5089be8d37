/-
  Numbers as cells, of no program. No condition but what each theorem names.
-/
import Derived.Test.YthmfcdefdbeefaaMem
namespace Go.Proofs.Ythmfcdefdbeefaa
open Go.RowKit

/-- Numbers as cells. -/
def natC (l : List Nat) : List Value := l.map fun x : Nat => .int .i64 (x : Int)
theorem natC_length (l : List Nat) : (natC l).length = l.length := by simp [natC]
theorem natC_append (a b : List Nat) : natC (a ++ b) = natC a ++ natC b := by simp [natC]
theorem natC_at (l : List Nat) (i x : Nat) (h : l[i]? = some x) : (natC l)[i]? = some (.int .i64 (x : Int)) := by unfold natC; rw [List.getElem?_map, h]; rfl
theorem natC_one (l : List Nat) : ∀ u ∈ natC l, u.oneCell' = true := by
  intro u hu
  obtain ⟨_, _, rfl⟩ := List.mem_map.1 hu
  rfl
theorem range_natC (i : Nat) : natC (List.range (i + 1)) = natC (List.range i) ++ [.int .i64 (i : Int)] := by rw [List.range_succ, natC_append]; rfl
theorem natC_set (l : List Nat) (i x : Nat) : (natC l).set i (.int .i64 (x : Int)) = natC (l.set i x) := by unfold natC; rw [List.map_set]
theorem natC_replicate (n : Nat) : natC (List.replicate n 0) = List.replicate n (.int .i64 0) := by unfold natC; rw [List.map_replicate]; rfl
theorem natC_map (l : List Nat) : natC l = (l.map fun x : Nat => (x : Int)).map (.int .i64) := by unfold natC; rw [List.map_map]; rfl
theorem natC_nil : natC [] = [] := rfl
theorem natC_snoc (l : List Nat) (x : Nat) : natC (l ++ [x]) = natC l ++ [.int .i64 (x : Int)] := natC_append l [x]
end Go.Proofs.Ythmfcdefdbeefaa
