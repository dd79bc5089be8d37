/-
  What bits.At and bits.Rank return: contracts, walked over the translated text. A vector is '.agg #[.int .i64 n, .slice A ws.length c]', its words ws below 2^64 in memory. No condition but what each theorem names.
-/
import Derived.Test.YtjgibbccjijpaaaBits
namespace Go.Proofs.Ytjgibbccjijpaaa
open Go.RowKit Words


set_option maxHeartbeats 400000 in
/-- bits.Rank of what is not valid. -/
theorem brank_form (n i : Int) (A : Option Addr) (ws : List Nat) (c : Nat) (w : World) (hV : ∀ m : Nat, n = m → ¬ Valid m ws) (hW : Words64 w w.heap.size A ws) :
    Calls Try.prog 107 #[.agg #[.int .i64 n, .slice A ws.length c], .int .i64 i] w fun e w' => e = .returned (.tuple #[.int .i64 0, .int .i64 4]) ∧ Below w.heap.size w w' := by
  have HM := Lib.hid (fun W (h : Words64 W W.heap.size A ws) => may_no n A ws c W hV h)
  have HW := Lib.hid hW
  clear hW hV
  go_enter Try.func107, Try.ntmps107
  go_wp2_with (go_at_call 45; refine (HM.out _ (by exact HW.out.alloc _)).mono ?_; rintro e w1 ⟨rfl, hb1⟩)
  go_ret2
  exact ⟨rfl, ((Below.refl _ _).alloc (Nat.le_refl _) _).trans (hb1.mono (by simp))⟩

set_option maxHeartbeats 400000 in
/-- bits.Rank out of range. -/
theorem brank_out (m : Nat) (i : Int) (A : Option Addr) (ws : List Nat) (c : Nat) (w : World) (hV : Valid m ws) (hW : Words64 w w.heap.size A ws) (h : i < 0 ∨ (m : Int) < i) :
    Calls Try.prog 107 #[.agg #[.int .i64 m, .slice A ws.length c], .int .i64 i] w fun e w' => e = .returned (.tuple #[.int .i64 0, .int .i64 2]) ∧ Below w.heap.size w w' := by
  have HM := Lib.hid (fun W (h : Words64 W W.heap.size A ws) => may_yes m A ws c W hV h)
  have HW := Lib.hid hW
  clear hW hV
  have hh : i < 0 ∨ (¬ i < 0 ∧ (m : Int) < i) := by omega
  clear h
  rcases hh with h0 | ⟨h0, h1⟩
  all_goals
    go_enter Try.func107, Try.ntmps107
    go_wp2_with (go_at_call 45; refine (HM.out _ (by exact HW.out.alloc _)).mono ?_; rintro e w1 ⟨rfl, hb1⟩; have hc1 := bcell hb1)
    go_ret2
    exact ⟨rfl, ((Below.refl _ _).alloc (Nat.le_refl _) _).trans (hb1.mono (by simp))⟩

set_option maxHeartbeats 1000000 in
/-- bits.Rank: how many one bits have a smaller number. -/
theorem brank_in (m r : Nat) (A : Option Addr) (ws : List Nat) (c : Nat) (w : World) (hV : Valid m ws) (hW : Words64 w w.heap.size A ws) (h : r ≤ m) :
    Calls Try.prog 107 #[.agg #[.int .i64 m, .slice A ws.length c], .int .i64 r] w fun e w' => e = .returned (.tuple #[.int .i64 (tally (bit ws) r), .int .i64 0]) ∧ Below w.heap.size w w' := by
  have HM := Lib.hid (fun W (h : Words64 W W.heap.size A ws) => may_yes m A ws c W hV h)
  have HW := Lib.hid hW
  have hm := hV.hi
  have hl := hV.len
  have hlo : r ≤ 64 * ws.length := by omega
  have hk64 : ws.length ≤ 64 := by omega
  clear hW hV hl
  generalize hk : ws.length = k at *
  have HK := Lib.hid hk
  clear hk
  have hd : decide ((r : Int) < 0) = false := by simp
  have hd1 : decide (m < r) = false := by simp; omega
  go_enter Try.func107, Try.ntmps107
  go_wp2_with (go_at_call 45; refine (HM.out _ (by exact HW.out.alloc _)).mono ?_; rintro e w1 ⟨rfl, hb1⟩; have hc1 := bcell hb1)
  go_loop [6, 23] (fun n v => ∃ j : Nat, j ≤ k ∧ v = .int .i64 j ∧ n = .int .i64 (tally (bit ws) (min r (64 * j)))) (fun _ v => k - (intOf v).toNat)
  case atStart => exact ⟨0, Nat.zero_le _, rfl, by simp [tally]⟩
  case round =>
    obtain ⟨j, hj, rfl, rfl⟩ := hrel
    have hst := tally_step ws r j
    have hb0 := tally_le (bit ws) (min r (64 * j))
    by_cases hlt : j < k
    · obtain ⟨b, o, x, rfl, hb, hx, hxl, hc⟩ := HW.out.at_ (k := j) (by rw [HK.out]; omega)
      have hg : ws.getD j 0 = x := by simp [List.getD, hx]
      rw [hg] at hst
      have hcc := cnt_cut x (min (r - 64 * j) 64) 64 (by omega)
      have hc64 := cnt_le x (min (r - 64 * j) 64)
      have HV := Lib.hid (within_any r j · (by omega) (by omega))
      have hand := and_mask_int x (min (r - 64 * j) 64) hxl (by omega)
      have HO := Lib.hid (ones_any (x % 2 ^ min (r - 64 * j) 64) · (mod_lt_word _ _ hxl))
      rw [hcc] at HO
      clear hcc hx hg
      have HS := Lib.hid hst
      clear hst
      generalize x % 2 ^ min (r - 64 * j) 64 = y at *
      generalize 2 ^ min (r - 64 * j) 64 - 1 = q at *
      generalize cnt x (min (r - 64 * j) 64) = z at *
      generalize tally (bit ws) (min r (64 * j)) = u at *
      go_wp2_with (first | (go_at_call 73; refine (HV.out _).mono ?_; rintro e w' ⟨rfl, rfl⟩) | (go_at_call 111; refine (HO.out _).mono ?_; rintro e w' ⟨rfl, rfl⟩))
      go_round
      case rel => exact ⟨j + 1, by omega, by go_num, by rw [HS.out]; go_num⟩
      case measure => simp [intOf]; omega
    · obtain rfl : j = k := by omega
      have hmin : min r (64 * j) = r := by omega
      rw [hmin]
      clear hst hb0 hmin
      go_wp2
      go_ret2
      exact ⟨rfl, ((Below.refl _ _).alloc (Nat.le_refl _) _).trans (hb1.mono (by simp))⟩
end Go.Proofs.Ytjgibbccjijpaaa
