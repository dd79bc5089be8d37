/-
  What the statements' comparisons of lists of numbers return where both are equal: contracts, walked over the translated text. What the functions of package bits that only read return: contracts, walked over the translated text. A vector is '.agg #[.int .i64 n, .slice A ws.length c]', its words ws below 2^64 in memory. What bits.At and bits.Rank return: contracts, walked over the translated text. A vector is '.agg #[.int .i64 n, .slice A ws.length c]', its words ws below 2^64 in memory. No condition but what each theorem names.
-/
import Derived.Test.YtpkclmfadlkbeaaJ02
import Derived.Test.YtpkclmfadlkbeaaJ01
import Derived.Deep.QuietTactic
import Derived.BigQuiet
import Derived.IntWalk
namespace Go.Proofs.Ytpkclmfadlkbeaa
open Go.RowKit Words

/-- Numbers that are not negative, as int. -/
def asInts (l : List Nat) : List Int := l.map fun n : Nat => (n : Int)
theorem asInts_length (l : List Nat) : (asInts l).length = l.length := by simp [asInts]
theorem asInts_map (l : List Nat) : (l.map fun n : Nat => Value.int .i64 (n : Int)) = (asInts l).map (.int .i64) := by unfold asInts; rw [List.map_map]; rfl


end Go.Proofs.Ytpkclmfadlkbeaa

namespace Go.Proofs.Ytpkclmfadlkbeaa
open Go.RowKit Words

/-- bits.wordsFor. -/
theorem wordsFor_any (n : Nat) (w : World) (hn : n ≤ 4096) :
    Calls Try.prog 71 #[.int .i64 n] w fun e w' => e = .returned (.int .i64 ((n + 63) / 64 : Nat)) ∧ w = w' := by
  go_enter Try.func71, Try.ntmps71
  go_wp2
  go_ret
  refine ⟨congrArg Ending.returned (congrArg (Value.int IntKind.i64) ?_), rfl⟩
  omega

/-- bits.within. -/
theorem within_any (n j : Nat) (w : World) (hn : n ≤ 4096) (hj : j ≤ 64) :
    Calls Try.prog 80 #[.int .i64 n, .int .i64 j] w fun e w' => e = .returned (.int .u64 (2 ^ min (n - 64 * j) 64 - 1 : Nat)) ∧ w = w' := by
  by_cases h : n ≤ 64 * j
  · rw [show n - 64 * j = 0 by omega]
    by_cases h0 : n = 64 * j
    · have hd : (n : Int) - (j : Int) * 64 = 0 := by omega
      clear h0 h
      go_enter Try.func80, Try.ntmps80
      go_wp2
      go_ret
      exact ⟨rfl, rfl⟩
    · have hd : (n : Int) - (j : Int) * 64 < 0 := by omega
      go_enter Try.func80, Try.ntmps80
      go_wp2
      go_ret
      exact ⟨rfl, rfl⟩
  · obtain ⟨m, hm⟩ : ∃ m : Nat, n = 64 * j + m := ⟨n - 64 * j, by omega⟩
    subst hm
    have hI := mask_int (min m 64) (by omega)
    rw [show 64 * j + m - 64 * j = m by omega]
    have e1 : ((64 * j + m : Nat) : Int) - (j : Int) * 64 = (m : Int) := by omega
    generalize 64 * j + m = n at *
    have h0 : ¬ (m : Int) < 0 := by omega
    go_enter Try.func80, Try.ntmps80
    go_wp2
    go_ret
    exact ⟨rfl, rfl⟩

/-- bits.May: not valid by its numbers. -/
theorem may_out (n : Int) (A : Option Addr) (ws : List Nat) (c : Nat) (w : World) (h : n < 0 ∨ 4096 < n ∨ ((ws.length : Int) ≠ (n + 63) / 64 ∧ 0 ≤ n)) :
    Calls Try.prog 73 #[.agg #[.int .i64 n, .slice A ws.length c]] w fun e w' => e = .returned (.bool false) ∧ Below w.heap.size w w' := by
  generalize ws.length = k at *
  by_cases h0 : n < 0
  · clear h
    have hd : decide (n < 0) = true := by simpa using h0
    go_enter Try.func73, Try.ntmps73
    go_wp2
    go_quiet (fail)
    go_wp2
    go_ret
    exact ⟨rfl, bdN ((Below.refl _ _).alloc (Nat.le_refl _) _) _⟩
  by_cases h1 : 4096 < n
  · clear h
    have hd : decide (n < 0) = false := by simpa using h0
    have hd1 : decide (4096 < n) = true := by simpa using h1
    go_enter Try.func73, Try.ntmps73
    go_wp2
    go_quiet (fail)
    go_wp2
    go_ret
    exact ⟨rfl, bdN ((Below.refl _ _).alloc (Nat.le_refl _) _) _⟩
  · obtain ⟨m, rfl⟩ := Int.eq_ofNat_of_zero_le (a := n) (by omega)
    have hW := fun w => wordsFor_any m w (by omega)
    have hne : ((k : Int) != ((m + 63) / 64 : Nat)) = true := by simp; omega
    have hd : decide ((m : Int) < 0) = false := by simp
    have hd1 : decide (4096 < (m : Int)) = false := by simp; omega
    clear h
    generalize (m + 63) / 64 = q at *
    have HW := Lib.hid hW
    clear hW
    go_enter Try.func73, Try.ntmps73
    go_wp2
    go_quiet ((go_at_call 71; exact quiet1 HW))
    go_wp2
    go_ret
    exact ⟨rfl, bdN ((Below.refl _ _).alloc (Nat.le_refl _) _) _⟩

/-- bits.May of the vector without bits. -/
theorem may_nil (A : Option Addr) (c : Nat) (w : World) :
    Calls Try.prog 73 #[.agg #[.int .i64 0, .slice A 0 c]] w fun e w' => e = .returned (.bool true) ∧ Below w.heap.size w w' := by
  have HW := Lib.hid (fun w => wordsFor_any 0 w (by omega))
  go_enter Try.func73, Try.ntmps73
  go_wp2
  go_quiet ((go_at_call 71; exact quiet1 HW))
  go_wp2
  go_quiet (fail)
  go_wp2
  go_ret
  exact ⟨rfl, bdN (bdN ((Below.refl _ _).alloc (Nat.le_refl _) _) _) _⟩

set_option maxHeartbeats 1000000 in
/-- bits.May: the last word's test. -/
theorem may_last (m j b o x y : Nat) (c : Nat) (w : World) (hm : m ≤ 4096) (hj : (m + 63) / 64 = j + 1) (hb : b < w.heap.size) (hc : w.cell? ⟨b, o + j, none⟩ = some (.int .u64 x))
    (hy : bits .andNot .u64 (x : Int) ((2 ^ min (m - 64 * j) 64 - 1 : Nat) : Int) = (y : Int)) (t : Bool) (ht : ((y : Int) == 0) = t) :
    Calls Try.prog 73 #[.agg #[.int .i64 m, .slice (some ⟨b, o, none⟩) (j + 1) c]] w fun e w' => e = .returned (.bool t) ∧ Below w.heap.size w w' := by
  have HW := Lib.hid (fun w => wordsFor_any m w hm)
  have HV := Lib.hid (fun w => within_any m j w hm (by omega))
  have hd : decide ((m : Int) < 0) = false := by simp
  have hd1 : decide (4096 < (m : Int)) = false := by simp; omega
  have hj64 : j ≤ 64 := by omega
  rw [hj] at HW
  clear hj
  generalize 2 ^ min (m - 64 * j) 64 - 1 = q at *
  have hne : (((j + 1 : Nat) : Int) != ((j + 1 : Nat) : Int)) = false := by simp
  have hne2 : (((j : Int) + 1) != ((j : Int) + 1)) = false := by simp
  have hd2 : decide ((j : Int) < 0) = false := by simp
  go_enter Try.func73, Try.ntmps73
  go_wp2
  go_quiet ((go_at_call 71; exact quiet1 HW))
  go_wp2
  go_quiet ((go_at_call 80; first | exact quiet2 HV | exact quiet1 HV))
  go_wp2
  go_ret
  exact ⟨rfl, bdN (bdN ((Below.refl _ _).alloc (Nat.le_refl _) _) _) _⟩

/-- bits.May of a valid vector. -/
theorem may_yes (m : Nat) (A : Option Addr) (ws : List Nat) (c : Nat) (w : World) (hV : Valid m ws) (hW : Words64 w w.heap.size A ws) :
    Calls Try.prog 73 #[.agg #[.int .i64 m, .slice A ws.length c]] w fun e w' => e = .returned (.bool true) ∧ Below w.heap.size w w' := by
  have hm := hV.hi
  have hl := hV.len
  rcases Nat.eq_zero_or_pos ws.length with h0 | h0
  · obtain rfl : m = 0 := by omega
    rw [h0]
    exact may_nil A c w
  · obtain ⟨j, hj⟩ : ∃ j, ws.length = j + 1 := ⟨ws.length - 1, by omega⟩
    obtain ⟨b, o, x, rfl, hb, hx, hlt, hc⟩ := hW.at_ (k := j) (by omega)
    have hy := andNot_mask x (min (m - 64 * j) 64) hlt (by omega)
    have h1 := (valid_last m ws j x hm hl hj hx hlt).1 hV
    rw [h1] at hy
    rw [hj]
    exact may_last m j b o x 0 c w hm (by omega) hb hc hy true rfl

/-- bits.May of what is not valid. -/
theorem may_no (n : Int) (A : Option Addr) (ws : List Nat) (c : Nat) (w : World) (hV : ∀ m : Nat, n = m → ¬ Valid m ws) (hW : Words64 w w.heap.size A ws) :
    Calls Try.prog 73 #[.agg #[.int .i64 n, .slice A ws.length c]] w fun e w' => e = .returned (.bool false) ∧ Below w.heap.size w w' := by
  by_cases h : n < 0 ∨ 4096 < n ∨ ((ws.length : Int) ≠ (n + 63) / 64 ∧ 0 ≤ n)
  · exact may_out n A ws c w h
  · obtain ⟨m, rfl⟩ := Int.eq_ofNat_of_zero_le (a := n) (by omega)
    have hm : m ≤ 4096 := by omega
    have hl : ws.length = (m + 63) / 64 := by omega
    rcases Nat.eq_zero_or_pos ws.length with h0 | h0
    · obtain rfl : m = 0 := by omega
      exact absurd (by rw [List.eq_nil_of_length_eq_zero h0]; exact valid_nil) (hV 0 rfl)
    · obtain ⟨j, hj⟩ : ∃ j, ws.length = j + 1 := ⟨ws.length - 1, by omega⟩
      obtain ⟨b, o, x, rfl, hb, hx, hlt, hc⟩ := hW.at_ (k := j) (by omega)
      have hy := andNot_mask x (min (m - 64 * j) 64) hlt (by omega)
      have h1 : ¬ (x / 2 ^ min (m - 64 * j) 64 * 2 ^ min (m - 64 * j) 64 = 0) := fun e => hV m rfl ((valid_last m ws j x hm hl hj hx hlt).2 e)
      rw [hj]
      refine may_last m j b o x _ c w hm (by omega) hb hc hy false ?_
      rw [beq_eq_false_iff_ne]
      intro e
      exact h1 (by exact_mod_cast e)

end Go.Proofs.Ytpkclmfadlkbeaa

namespace Go.Proofs.Ytpkclmfadlkbeaa
open Go.RowKit Words


set_option maxHeartbeats 400000 in
/-- bits.Rank of what is not valid. -/
theorem brank_form (n i : Int) (A : Option Addr) (ws : List Nat) (c : Nat) (w : World) (hV : ∀ m : Nat, n = m → ¬ Valid m ws) (hW : Words64 w w.heap.size A ws) :
    Calls Try.prog 81 #[.agg #[.int .i64 n, .slice A ws.length c], .int .i64 i] w fun e w' => e = .returned (.tuple #[.int .i64 0, .int .i64 4]) ∧ Below w.heap.size w w' := by
  have HM := Lib.hid (fun W (h : Words64 W W.heap.size A ws) => may_no n A ws c W hV h)
  have HW := Lib.hid hW
  clear hW hV
  go_enter Try.func81, Try.ntmps81
  go_wp2_with (go_at_call 73; refine (HM.out _ (by exact HW.out.alloc _)).mono ?_; rintro e w1 ⟨rfl, hb1⟩)
  go_ret2
  exact ⟨rfl, ((Below.refl _ _).alloc (Nat.le_refl _) _).trans (hb1.mono (by simp))⟩

set_option maxHeartbeats 400000 in
/-- bits.Rank out of range. -/
theorem brank_out (m : Nat) (i : Int) (A : Option Addr) (ws : List Nat) (c : Nat) (w : World) (hV : Valid m ws) (hW : Words64 w w.heap.size A ws) (h : i < 0 ∨ (m : Int) < i) :
    Calls Try.prog 81 #[.agg #[.int .i64 m, .slice A ws.length c], .int .i64 i] w fun e w' => e = .returned (.tuple #[.int .i64 0, .int .i64 2]) ∧ Below w.heap.size w w' := by
  have HM := Lib.hid (fun W (h : Words64 W W.heap.size A ws) => may_yes m A ws c W hV h)
  have HW := Lib.hid hW
  clear hW hV
  have hh : i < 0 ∨ (¬ i < 0 ∧ (m : Int) < i) := by omega
  clear h
  rcases hh with h0 | ⟨h0, h1⟩
  all_goals
    go_enter Try.func81, Try.ntmps81
    go_wp2_with (go_at_call 73; refine (HM.out _ (by exact HW.out.alloc _)).mono ?_; rintro e w1 ⟨rfl, hb1⟩; have hc1 := bcell hb1)
    go_ret2
    exact ⟨rfl, ((Below.refl _ _).alloc (Nat.le_refl _) _).trans (hb1.mono (by simp))⟩

set_option maxHeartbeats 1000000 in
/-- bits.Rank: how many one bits have a smaller number. -/
theorem brank_in (m r : Nat) (A : Option Addr) (ws : List Nat) (c : Nat) (w : World) (hV : Valid m ws) (hW : Words64 w w.heap.size A ws) (h : r ≤ m) :
    Calls Try.prog 81 #[.agg #[.int .i64 m, .slice A ws.length c], .int .i64 r] w fun e w' => e = .returned (.tuple #[.int .i64 (tally (bit ws) r), .int .i64 0]) ∧ Below w.heap.size w w' := by
  have HM := Lib.hid (fun W (h : Words64 W W.heap.size A ws) => may_yes m A ws c W hV h)
  have HW := Lib.hid hW
  have hm := hV.hi
  have hl := hV.len
  have hlo : r ≤ 64 * ws.length := by omega
  have hk64 : ws.length ≤ 64 := by omega
  clear hW hV hl
  generalize hk : ws.length = k at *
  have HK := Lib.hid hk
  clear hk
  have hd : decide ((r : Int) < 0) = false := by simp
  have hd1 : decide (m < r) = false := by simp; omega
  go_enter Try.func81, Try.ntmps81
  go_wp2_with (go_at_call 73; refine (HM.out _ (by exact HW.out.alloc _)).mono ?_; rintro e w1 ⟨rfl, hb1⟩; have hc1 := bcell hb1)
  go_loop [6, 23] (fun n v => ∃ j : Nat, j ≤ k ∧ v = .int .i64 j ∧ n = .int .i64 (tally (bit ws) (min r (64 * j)))) (fun _ v => k - (intOf v).toNat)
  case atStart => exact ⟨0, Nat.zero_le _, rfl, by simp [tally]⟩
  case round =>
    obtain ⟨j, hj, rfl, rfl⟩ := hrel
    have hst := tally_step ws r j
    have hb0 := tally_le (bit ws) (min r (64 * j))
    by_cases hlt : j < k
    · obtain ⟨b, o, x, rfl, hb, hx, hxl, hc⟩ := HW.out.at_ (k := j) (by rw [HK.out]; omega)
      have hg : ws.getD j 0 = x := by simp [List.getD, hx]
      rw [hg] at hst
      have hcc := cnt_cut x (min (r - 64 * j) 64) 64 (by omega)
      have hc64 := cnt_le x (min (r - 64 * j) 64)
      have HV := Lib.hid (within_any r j · (by omega) (by omega))
      have hand := and_mask_int x (min (r - 64 * j) 64) hxl (by omega)
      have HO := Lib.hid (ones_any (x % 2 ^ min (r - 64 * j) 64) · (mod_lt_word _ _ hxl))
      rw [hcc] at HO
      clear hcc hx hg
      have HS := Lib.hid hst
      clear hst
      generalize x % 2 ^ min (r - 64 * j) 64 = y at *
      generalize 2 ^ min (r - 64 * j) 64 - 1 = q at *
      generalize cnt x (min (r - 64 * j) 64) = z at *
      generalize tally (bit ws) (min r (64 * j)) = u at *
      go_wp2_with (first | (go_at_call 80; refine (HV.out _).mono ?_; rintro e w' ⟨rfl, rfl⟩) | (go_at_call 85; refine (HO.out _).mono ?_; rintro e w' ⟨rfl, rfl⟩))
      go_round
      case rel => exact ⟨j + 1, by omega, by go_num, by rw [HS.out]; go_num⟩
      case measure => simp [intOf]; omega
    · obtain rfl : j = k := by omega
      have hmin : min r (64 * j) = r := by omega
      rw [hmin]
      clear hst hb0 hmin
      go_wp2
      go_ret2
      exact ⟨rfl, ((Below.refl _ _).alloc (Nat.le_refl _) _).trans (hb1.mono (by simp))⟩
end Go.Proofs.Ytpkclmfadlkbeaa
