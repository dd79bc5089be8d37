/-
  Encode and Decode of numbers that have codes, as the fourth chapter's statements call them: contracts, out of those of package gam. No condition but what each theorem names.
-/
import Derived.Test.YtelcnkmgdohigaaGamEnc
import Derived.Test.YtelcnkmgdohigaaGamDc
import Derived.Test.YtelcnkmgdohigaaSameI
namespace Go.Proofs.Ytelcnkmgdohigaa
open Go.RowKit Words

theorem rowBits_rowOf (l : List Bool) : rowBits l.length (rowOf l) = l := by
  apply List.ext_getElem?
  intro i
  by_cases h : i < l.length
  · rw [rowBits_get _ _ _ h, rowOf_bit l i (by omega), List.getD, List.getElem?_eq_getElem h]
    rfl
  · rw [List.getElem?_eq_none (by rw [rowBits_length]; omega), List.getElem?_eq_none (by omega)]

theorem natsI_asInts (l : List Nat) : natsI (asInts l) = l := by
  unfold natsI asInts
  rw [List.map_map]
  have : (Int.toNat ∘ fun n : Nat => (n : Int)) = id := by
    funext n
    simp
  rw [this, List.map_id]

theorem asInts_codes {l : List Nat} (h : ∀ n ∈ l, 1 ≤ n ∧ n ≤ 1048576) : ∀ z ∈ asInts l, Codes z := by
  intro z hz
  obtain ⟨n, hn, rfl⟩ := List.mem_map.1 hz
  have := h n hn
  exact ⟨by omega, by omega⟩

theorem codes_fit {k : Nat} {l : List Nat} (h : ∀ n ∈ l, 1 ≤ n ∧ n ≤ 1048576) (hl : l.length ≤ 99) : (codes k l).length ≤ 4096 := by
  rw [codes_length k l h]
  have := costs_le k l h
  omega

/-- gam.Encode of at most 99 numbers that have codes. -/
theorem enc_good (k : Nat) (l : List Nat) (A : Option Addr) (c : Nat) (w : World) (hk : k = 1 ∨ k = 2) (h : ∀ n ∈ l, 1 ≤ n ∧ n ≤ 1048576) (hl : l.length ≤ 99) (hL : Lies w w.heap.size A ((asInts l).map (.int .i64))) :
    Calls Try.prog 9 #[.int .i64 k, .slice A l.length c] w (GivesBits w (codes k l).length (rowOf (codes k l))) := by
  have h1 := enc_any k A (asInts l) c w hk (by rw [asInts_length]; omega) hL
  rw [asInts_length] at h1
  refine h1.mono fun e w' hh => ?_
  have hc := asInts_codes h
  have hf := codes_fit (k := k) h hl
  unfold Encodes at hh
  rw [natsI_asInts] at hh
  rcases hh with ⟨⟨z, hz, hb⟩, _⟩ | ⟨_, h9, _⟩ | ⟨_, _, hg⟩
  · exact absurd (hc z hz) hb
  · omega
  · exact hg

/-- gam.Decode of their codes. -/
theorem dec_good (k : Nat) (l : List Nat) (A : Option Addr) (c : Nat) (w : World) (hk : k = 1 ∨ k = 2) (h : ∀ n ∈ l, 1 ≤ n ∧ n ≤ 1048576) (hl : l.length ≤ 99) (hW : Words64 w w.heap.size A (rowOf (codes k l))) :
    Calls Try.prog 12 #[.int .i64 k, .agg #[.int .i64 (codes k l).length, .slice A (rowOf (codes k l)).length c]] w (GivesInts w (l, 0)) := by
  have hf := codes_fit (k := k) h hl
  have h1 := dec_any k (codes k l).length A (rowOf (codes k l)) c w hk (rowOf_valid _ hf) hW
  rw [rowBits_rowOf, decoded_codes k l h (by omega)] at h1
  exact h1

/-- gam.Cost of a number that has a code. -/
theorem cost_good (k n : Nat) (w : World) (hk : k = 1 ∨ k = 2) (h : 1 ≤ n ∧ n ≤ 1048576) :
    Calls Try.prog 15 #[.int .i64 k, .int .i64 n] w fun e w' => e = .returned (.tuple #[.int .i64 (costOf k n : Nat), .int .i64 0]) ∧ w = w' := by
  have h1 := cost_any (k : Int) (n : Int) w
  have e : costAns (k : Int) (n : Int) = (costOf k n, 0) := by
    unfold costAns
    rw [if_neg (fun hh => hh (by omega)), if_neg (fun hh => hh ⟨by omega, by omega⟩)]
    rfl
  rw [e] at h1
  exact h1

/-- The costs of the first numbers. -/
def costTo (k : Nat) (l : List Nat) (j : Nat) : Nat := ((l.take j).map (costOf k)).sum
theorem costTo_succ (k : Nat) (l : List Nat) (j n : Nat) (h : l[j]? = some n) : costTo k l (j + 1) = costTo k l j + costOf k n := by
  unfold costTo
  rw [List.take_add_one, h]
  simp
theorem costTo_le (k : Nat) (l : List Nat) (j : Nat) (h : ∀ n ∈ l, 1 ≤ n ∧ n ≤ 1048576) (hl : l.length ≤ 99) : costTo k l j ≤ 4096 := by
  have := costs_le k (l.take j) (fun n hn => h n (List.mem_of_mem_take hn))
  rw [List.length_take] at this
  unfold costTo
  omega
theorem costTo_all (k : Nat) (l : List Nat) (h : ∀ n ∈ l, 1 ≤ n ∧ n ≤ 1048576) : costTo k l l.length = (codes k l).length := by
  unfold costTo
  rw [List.take_length, codes_length k l h]
end Go.Proofs.Ytelcnkmgdohigaa
