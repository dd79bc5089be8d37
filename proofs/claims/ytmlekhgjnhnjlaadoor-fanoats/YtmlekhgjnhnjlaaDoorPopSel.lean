/-
  What pop.Select and the document's select return: contracts, walked over the translated text. Words are natural numbers below 2^64. Where the lowest one bit is looked up, the library's table lies in its variable as its initialiser lays it ('Tab').
-/
import Derived.Test.YtmlekhgjnhnjlaaDoorPop
import Derived.Test.YtmlekhgjnhnjlaaDoorChosen
namespace Go.Proofs.YtmlekhgjnhnjlaaDoor
open Go.RowKit Words

/-- The library's table in its variable. -/
def Tab (w : World) : Prop := ∀ j, j < 64 → w.cell? ⟨0, j, none⟩ = some (.int .u8 (Lib.deBruijn64tab.getD j 0 : Nat))

set_option maxHeartbeats 1000000 in
theorem tz_core (y p idx : Nat) (w : World) (hy0 : ((y : Int) == 0) = false)
    (key : IntKind.u64.wrap (bits BinOp.and IntKind.u64 (y : Int) (IntKind.u64.wrap (-(y : Int))) * 285870213051353865) / 288230376151711744 = (idx : Int))
    (hi : idx < 64) (hp : p < 64) (hcell : w.cell? ⟨0, idx, none⟩ = some (.int .u8 p)) :
    Calls Tryd.prog 54 #[.int .u64 y] w fun e w' => e = .returned (.int .i64 p) ∧ w = w' := by
  go_enter Tryd.func54, Tryd.ntmps54
  go_wp2_with (simp only [key])
  go_ret
  exact ⟨rfl, rfl⟩

theorem tz_any (y p : Nat) (w : World) (hT : Tab w) (hy : y < 18446744073709551616) (hp : p < 64) (h0 : ∀ i, i < p → y.testBit i = false) (h1 : y.testBit p = true) :
    Calls Tryd.prog 54 #[.int .u64 y] w fun e w' => e = .returned (.int .i64 p) ∧ w = w' := by
  have hne : y ≠ 0 := by intro e; rw [e] at h1; simp at h1
  obtain ⟨hs, ht⟩ := spot_ok p hp
  have hc := hT _ hs
  rw [ht] at hc
  exact tz_core y p (spot p) w (by simp; omega) (spot_int y p hy h0 h1) hs hp hc

theorem withoutLowest_any (y : Nat) (w : World) (hy : y < 18446744073709551616) (h : y ≠ 0) :
    Calls Tryd.prog 53 #[.int .u64 y] w fun e w' => e = .returned (.int .u64 (y &&& (y - 1) : Nat)) ∧ w = w' := by
  have hc := clear_int y hy h
  go_enter Tryd.func53, Tryd.ntmps53
  go_wp2
  go_ret
  exact ⟨rfl, rfl⟩

/-- pop.Select at a negative number. -/
theorem sel_neg (x k : Int) (w : World) (h : k < 0) :
    Calls Tryd.prog 48 #[.int .u64 x, .int .i64 k] w fun e w' => e = .returned (.tuple #[.int .i64 0, .int .i64 2]) ∧ w = w' := by
  go_enter Tryd.func48, Tryd.ntmps48
  go_wp2
  go_ret2
  exact ⟨rfl, rfl⟩

/-- pop.Select where there are too few one bits. -/
theorem sel_none (x k : Nat) (w : World) (hx : x < 18446744073709551616) (h : cnt x 64 ≤ k) :
    Calls Tryd.prog 48 #[.int .u64 x, .int .i64 k] w fun e w' => e = .returned (.tuple #[.int .i64 0, .int .i64 7]) ∧ w = w' := by
  have ho := ones_any x w hx
  generalize cnt x 64 = n at *
  go_enter Tryd.func48, Tryd.ntmps48
  go_wp2_with (go_at_call 49; refine ho.mono ?_; rintro e w' ⟨rfl, rfl⟩)
  go_ret2
  exact ⟨rfl, rfl⟩

/-- pop.Select: the one bit that has k one bits below it. -/
theorem sel_some (x k p : Nat) (w : World) (hT : Tab w) (hx : x < 18446744073709551616) (hp : p < 64) (hb : x.testBit p = true) (hc : cnt x p = k) :
    Calls Tryd.prog 48 #[.int .u64 x, .int .i64 k] w fun e w' => e = .returned (.tuple #[.int .i64 p, .int .i64 0]) ∧ w = w' := by
  have ho := ones_any x w hx
  have hlt := cnt_lt_of_bit x p 64 hp hb
  have h64 := cnt_le x 64
  have HB := Lib.hid hb
  have HC := Lib.hid hc
  have HT := Lib.hid hT
  rw [hc] at hlt
  clear hb hc hT
  have hall := Lib.hid (fun j (hj : j < k) => chosen x j 64 (by omega))
  generalize cnt x 64 = n at *
  have hd : decide (n ≤ k) = false := by simp; omega
  go_enter Tryd.func48, Tryd.ntmps48
  go_wp2_with (go_at_call 49; refine ho.mono ?_; rintro e w' ⟨rfl, rfl⟩)
  go_loop [0, 13] (fun v i => ∃ j y : Nat, j ≤ k ∧ i = .int .i64 j ∧ v = .int .u64 y ∧ y < 18446744073709551616 ∧ Without x j y) (fun _ i => k - (intOf i).toNat)
  case atStart => exact ⟨0, x, Nat.zero_le _, rfl, rfl, hx, without_zero x⟩
  case round =>
    obtain ⟨j, y, hj, rfl, rfl, hy, hw⟩ := hrel
    have HW := Lib.hid hw
    clear hw
    by_cases hlt2 : j < k
    · obtain ⟨q, hq, hqb, hqc⟩ := hall.out j hlt2
      have hn := withoutLowest_any y w hy (without_ne x j y q HW.out hqb hqc)
      have HQ := Lib.hid (without_succ x j y q HW.out hqb hqc)
      have hl := clear_lt y hy
      clear hqb hqc hq
      generalize y &&& (y - 1) = z at *
      go_wp2_with (go_at_call 53; refine hn.mono ?_; rintro e w' ⟨rfl, rfl⟩)
      go_round
      case rel => exact ⟨j + 1, z, by omega, by go_num, rfl, hl, HQ.out⟩
      case measure => simp [intOf]; omega
    · obtain rfl : k = j := by omega
      obtain ⟨h0, h1⟩ := without_low x k y p HW.out HB.out HC.out
      have ht := tz_any y p w HT.out hy hp h0 h1
      clear h0 h1
      go_wp2_with (go_at_call 54; refine ht.mono ?_; rintro e w' ⟨rfl, rfl⟩)
      go_ret2
      exact ⟨rfl, rfl⟩

end Go.Proofs.YtmlekhgjnhnjlaaDoor
