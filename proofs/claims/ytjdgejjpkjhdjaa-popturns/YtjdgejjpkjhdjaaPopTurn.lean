/-
  What pop.Turn and the document's turn return, and the small functions of the statements: contracts, walked over the translated text. Words are natural numbers below 2^64; no other condition.
-/
import Derived.Test.YtjdgejjpkjhdjaaPop
import Derived.Test.YtjdgejjpkjhdjaaTurned
namespace Go.Proofs.Ytjdgejjpkjhdjaa
open Go.RowKit Words

set_option maxHeartbeats 400000 in
theorem revBytes_core (x y4 y5 y6 : Nat) (w : World)
    (k4 : bits BinOp.or IntKind.u64 (bits BinOp.and IntKind.u64 ((x : Int) / 256) 71777214294589695) (IntKind.u64.wrap (bits BinOp.and IntKind.u64 (x : Int) 71777214294589695 * 256)) = (y4 : Int))
    (k5 : bits BinOp.or IntKind.u64 (bits BinOp.and IntKind.u64 ((y4 : Int) / 65536) 281470681808895) (IntKind.u64.wrap (bits BinOp.and IntKind.u64 (y4 : Int) 281470681808895 * 65536)) = (y5 : Int))
    (k6 : bits BinOp.or IntKind.u64 ((y5 : Int) / 4294967296) (IntKind.u64.wrap ((y5 : Int) * 4294967296)) = (y6 : Int)) :
    Calls Try.prog 18 #[.int .u64 x] w fun e w' => e = .returned (.int .u64 y6) ∧ w = w' := by
  go_enter Try.func18, Try.ntmps18
  go_wp2
  go_ret
  exact ⟨rfl, rfl⟩

set_option maxHeartbeats 400000 in
theorem rev_core (x y1 y2 y3 y6 : Nat) (w : World)
    (k1 : bits BinOp.or IntKind.u64 (bits BinOp.and IntKind.u64 ((x : Int) / 2) 6148914691236517205) (IntKind.u64.wrap (bits BinOp.and IntKind.u64 (x : Int) 6148914691236517205 * 2)) = (y1 : Int))
    (k2 : bits BinOp.or IntKind.u64 (bits BinOp.and IntKind.u64 ((y1 : Int) / 4) 3689348814741910323) (IntKind.u64.wrap (bits BinOp.and IntKind.u64 (y1 : Int) 3689348814741910323 * 4)) = (y2 : Int))
    (k3 : bits BinOp.or IntKind.u64 (bits BinOp.and IntKind.u64 ((y2 : Int) / 16) 1085102592571150095) (IntKind.u64.wrap (bits BinOp.and IntKind.u64 (y2 : Int) 1085102592571150095 * 16)) = (y3 : Int))
    (hc : Calls Try.prog 18 #[.int .u64 y3] w fun e w' => e = .returned (.int .u64 y6) ∧ w = w') :
    Calls Try.prog 17 #[.int .u64 x] w fun e w' => e = .returned (.int .u64 y6) ∧ w = w' := by
  go_enter Try.func17, Try.ntmps17
  go_wp2_with (go_at_call 18; refine hc.mono ?_; rintro e w' ⟨rfl, rfl⟩)
  go_ret
  exact ⟨rfl, rfl⟩

/-- pop.Turn. -/
theorem turn_any (x : Nat) (w : World) (hx : x < 18446744073709551616) :
    Calls Try.prog 11 #[.int .u64 x] w fun e w' => e = .returned (.int .u64 (turnTo x 64)) ∧ w = w' := by
  obtain ⟨y1, y2, y3, y4, y5, y6, k1, k2, k3, k4, k5, k6, hl, hb⟩ := turn_steps x hx
  have hc := rev_core x y1 y2 y3 y6 w k1 k2 k3 (revBytes_core y3 y4 y5 y6 w k4 k5 k6)
  rw [turn_unique x y6 hl hb] at hc
  clear k1 k2 k3 k4 k5 k6 hl hb
  go_enter Try.func11, Try.ntmps11
  go_wp2_with (go_at_call 17; refine hc.mono ?_; rintro e w' ⟨rfl, rfl⟩)
  go_ret
  exact ⟨rfl, rfl⟩

/-- damaskkeep.popRank. -/
theorem popRank_in (x i : Nat) (w : World) (hx : x < 18446744073709551616) (h : i ≤ 64) :
    Calls Try.prog 14 #[.int .u64 x, .int .i64 i] w fun e w' => e = .returned (.int .i64 (cnt x i)) ∧ w = w' := by
  have hr := rank_in x i w hx h
  go_enter Try.func14, Try.ntmps14
  go_wp2_with (go_at_call 10; refine hr.mono ?_; rintro e w' ⟨rfl, rfl⟩)
  go_ret
  exact ⟨rfl, rfl⟩

/-- damaskkeep.Picked: a number below n. -/
theorem picked_any (a : Int) (n : Nat) (w : World) (h0 : 0 < n) (hn : n ≤ 1000000) (ha : (Lit.int .i64 a).wf = true) :
    ∃ k : Nat, k < n ∧ Calls Try.prog 13 #[.int .i64 a, .int .i64 n] w fun e w' => e = .returned (.int .i64 k) ∧ w = w' := by
  have hb := bounds_i64 ha
  have t1 : a.tmod n < n := Int.tmod_lt_of_pos a (by omega)
  have t2 : -(n : Int) < a.tmod n := Int.lt_tmod_of_pos a (by omega)
  by_cases h : a.tmod n < 0
  · refine ⟨(a.tmod n + n).toNat, by omega, ?_⟩
    go_enter Try.func13, Try.ntmps13
    go_wp2
    go_ret
    refine ⟨congrArg Ending.returned (congrArg (Value.int IntKind.i64) ?_), rfl⟩
    first | omega | (simp only [wrap64]; omega)
  · refine ⟨(a.tmod n).toNat, by omega, ?_⟩
    go_enter Try.func13, Try.ntmps13
    go_wp2
    go_ret
    refine ⟨congrArg Ending.returned (congrArg (Value.int IntKind.i64) ?_), rfl⟩
    omega

/-- The document's turn. -/
theorem rturn_any (x : Nat) (w : World) (hx : x < 18446744073709551616) :
    Calls Try.prog 12 #[.int .u64 x] w fun e w' => e = .returned (.int .u64 (turnTo x 64)) ∧ w = w' := by
  go_enter Try.func12, Try.ntmps12
  go_wp2
  go_loop [3, 4] (fun n k => ∃ j : Nat, j ≤ 64 ∧ k = .int .i64 j ∧ n = .int .u64 (turnTo x j)) (fun _ k => 64 - (intOf k).toNat)
  case atStart => exact ⟨0, Nat.zero_le _, rfl, rfl⟩
  case round =>
    obtain ⟨j, hj, rfl, rfl⟩ := hrel
    by_cases hlt : j < 64
    · cases hb : x.testBit j
      all_goals
        have HB := Lib.hid hb
        have hbo := bitOf_any x j w hx (by omega)
        rw [hb] at hbo
        clear hb
        go_wp2_with (go_at_call 15; refine hbo.mono ?_; rintro e w' ⟨rfl, rfl⟩)
        go_round
        case rel => exact ⟨j + 1, by omega, by go_num, by first | rw [turn_skip x j HB.out] | rw [turn_add x j hlt HB.out]⟩
        case measure => simp [intOf]; omega
    · obtain rfl : j = 64 := by omega
      go_wp2
      go_ret
      exact ⟨rfl, rfl⟩
end Go.Proofs.Ytjdgejjpkjhdjaa
