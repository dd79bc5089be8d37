/-
  What the functions of package pop, and the document's answers to them, return: contracts, walked over the translated text. Words are natural numbers below 2^64; no other condition.
-/
import Derived.Test.YtjdgejjpkjhdjaaRows
import Derived.Test.YtjdgejjpkjhdjaaWords
import Derived.WalkKit
import Derived.WalkSpells
import Derived.WalkLawsBesides
import Derived.Lib.Hide
import Derived.OpenShut
namespace Go.Proofs.Ytjdgejjpkjhdjaa
open Go.RowKit Words

/-- An argument of type uint64 is a word. -/
theorem word_of {a : Int} (h : (Lit.int .u64 a).wf = true) : ∃ x : Nat, a = (x : Int) ∧ x < 18446744073709551616 := by
  have hb := bounds_u64 h
  exact ⟨a.toNat, by omega, by omega⟩

set_option maxHeartbeats 400000 in
theorem oc_core (x y1 y2 y3 y4 y5 y6 n : Nat) (w : World)
    (k1 : IntKind.u64.wrap (bits BinOp.and IntKind.u64 ((x : Int) / 2) 6148914691236517205 + bits BinOp.and IntKind.u64 (x : Int) 6148914691236517205) = (y1 : Int))
    (k2 : IntKind.u64.wrap (bits BinOp.and IntKind.u64 ((y1 : Int) / 4) 3689348814741910323 + bits BinOp.and IntKind.u64 (y1 : Int) 3689348814741910323) = (y2 : Int))
    (k3 : bits BinOp.and IntKind.u64 (IntKind.u64.wrap ((y2 : Int) / 16 + (y2 : Int))) 1085102592571150095 = (y3 : Int))
    (k4 : IntKind.u64.wrap ((y3 : Int) + (y3 : Int) / 256) = (y4 : Int))
    (k5 : IntKind.u64.wrap ((y4 : Int) + (y4 : Int) / 65536) = (y5 : Int))
    (k6 : IntKind.u64.wrap ((y5 : Int) + (y5 : Int) / 4294967296) = (y6 : Int))
    (k7 : bits BinOp.and IntKind.i64 (wrap64 (y6 : Int)) 127 = (n : Int)) :
    Calls Try.prog 16 #[.int .u64 x] w fun e w' => e = .returned (.int .i64 n) ∧ w = w' := by
  go_enter Try.func16, Try.ntmps16
  go_wp2
  go_ret
  exact ⟨rfl, rfl⟩

theorem oc_any (x : Nat) (w : World) (hx : x < 18446744073709551616) :
    Calls Try.prog 16 #[.int .u64 x] w fun e w' => e = .returned (.int .i64 (cnt x 64)) ∧ w = w' := by
  obtain ⟨y1, y2, y3, y4, y5, y6, k1, k2, k3, k4, k5, k6, k7⟩ := ones_steps x hx
  exact oc_core x y1 y2 y3 y4 y5 y6 _ w k1 k2 k3 k4 k5 k6 k7

/-- pop.Ones. -/
theorem ones_any (x : Nat) (w : World) (hx : x < 18446744073709551616) :
    Calls Try.prog 9 #[.int .u64 x] w fun e w' => e = .returned (.int .i64 (cnt x 64)) ∧ w = w' := by
  go_enter Try.func9, Try.ntmps9
  go_wp2_with (go_at_call 16; refine (oc_any x _ hx).mono ?_; rintro e w' ⟨rfl, rfl⟩)
  go_ret
  exact ⟨rfl, rfl⟩

/-- pop.Rank, out of range. -/
theorem rank_out (x i : Int) (w : World) (h : i < 0 ∨ 64 < i) :
    Calls Try.prog 10 #[.int .u64 x, .int .i64 i] w fun e w' => e = .returned (.tuple #[.int .i64 0, .int .i64 2]) ∧ w = w' := by
  rcases h with h | h
  · go_enter Try.func10, Try.ntmps10
    go_wp2
    go_ret2
    exact ⟨rfl, rfl⟩
  · have h' : ¬ i < 0 := by omega
    go_enter Try.func10, Try.ntmps10
    go_wp2
    go_ret2
    exact ⟨rfl, rfl⟩

/-- pop.Rank, in range. -/
theorem rank_in (x i : Nat) (w : World) (hx : x < 18446744073709551616) (h : i ≤ 64) :
    Calls Try.prog 10 #[.int .u64 x, .int .i64 i] w fun e w' => e = .returned (.tuple #[.int .i64 (cnt x i), .int .i64 0]) ∧ w = w' := by
  have hm := low_mask x i hx h
  have hc := Lib.hid (cnt_cut x i 64 h)
  have hl := mod_lt_word x i hx
  go_enter Try.func10, Try.ntmps10
  go_wp2_with (go_at_call 9; refine (ones_any (x % 2 ^ i) _ hl).mono ?_; rintro e w' ⟨rfl, rfl⟩)
  go_ret2
  rw [hc.out]
  exact ⟨rfl, rfl⟩

/-- The document's bit. -/
theorem bitOf_any (x i : Nat) (w : World) (hx : x < 18446744073709551616) (_h : i < 64) :
    Calls Try.prog 15 #[.int .u64 x, .int .i64 i] w fun e w' => e = .returned (.bool (x.testBit i)) ∧ w = w' := by
  have hb := bit_one x i hx
  go_enter Try.func15, Try.ntmps15
  go_wp2
  go_ret
  exact ⟨rfl, rfl⟩

/-- The document's rank, out of range. -/
theorem rrank_out (x i : Int) (w : World) (h : i < 0 ∨ 64 < i) :
    Calls Try.prog 8 #[.int .u64 x, .int .i64 i] w fun e w' => e = .returned (.tuple #[.int .i64 0, .int .i64 2]) ∧ w = w' := by
  rcases h with h | h
  · go_enter Try.func8, Try.ntmps8
    go_wp2
    go_ret2
    exact ⟨rfl, rfl⟩
  · have h' : ¬ i < 0 := by omega
    go_enter Try.func8, Try.ntmps8
    go_wp2
    go_ret2
    exact ⟨rfl, rfl⟩

/-- The document's rank, in range. -/
theorem rrank_in (x i : Nat) (w : World) (hx : x < 18446744073709551616) (h : i ≤ 64) :
    Calls Try.prog 8 #[.int .u64 x, .int .i64 i] w fun e w' => e = .returned (.tuple #[.int .i64 (cnt x i), .int .i64 0]) ∧ w = w' := by
  go_enter Try.func8, Try.ntmps8
  go_wp2
  go_loop [6, 7] (fun n k => ∃ j : Nat, j ≤ i ∧ k = .int .i64 j ∧ n = .int .i64 (cnt x j)) (fun _ k => i - (intOf k).toNat)
  case atStart => exact ⟨0, Nat.zero_le _, rfl, rfl⟩
  case round =>
    obtain ⟨j, hj, rfl, rfl⟩ := hrel
    have hcl := cnt_le x j
    have HS := Lib.hid (cnt_succ x j)
    by_cases hlt : j < i
    · cases hb : x.testBit j
      all_goals
        have HB := Lib.hid hb
        have hbo := bitOf_any x j w hx (by omega)
        rw [hb] at hbo
        clear hb
        go_wp2_with (go_at_call 15; refine hbo.mono ?_; rintro e w' ⟨rfl, rfl⟩)
        go_round
        case rel => exact ⟨j + 1, by omega, by go_num, by rw [HS.out, HB.out]; first | rfl | go_num⟩
        case measure => simp [intOf]; omega
    · obtain rfl : i = j := by omega
      go_wp2
      go_ret2
      exact ⟨rfl, rfl⟩
end Go.Proofs.Ytjdgejjpkjhdjaa
