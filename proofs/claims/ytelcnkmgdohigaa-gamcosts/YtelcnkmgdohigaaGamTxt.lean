/-
  What the document's gamText and GamCost return: contracts, walked over the translated text. No condition but what each theorem names.
-/
import Derived.Test.YtelcnkmgdohigaaGamCst
import Derived.Test.YtelcnkmgdohigaaMem
import Derived.Laws.Concat
import Derived.Deep.QuietTactic
import Derived.BigQuiet
namespace Go.Proofs.Ytelcnkmgdohigaa
open Go.RowKit Words

/-- Bits as a text of 0 and 1. -/
def txt (l : List Bool) : ByteArray := ⟨(l.map fun b => if b then (49 : UInt8) else 48).toArray⟩

theorem txt_size (l : List Bool) : (txt l).size = l.length := by simp [txt, ByteArray.size]
theorem txt_append (a b : List Bool) : txt a ++ txt b = txt (a ++ b) := by
  unfold txt
  rw [ByteArray.mk_append_mk, List.map_append]
theorem txt_one (l : List Bool) : ByteArray.mk #[49] ++ txt l = txt (true :: l) := txt_append [true] l
theorem txt_zero (l : List Bool) : ByteArray.mk #[48] ++ txt l = txt (false :: l) := txt_append [false] l
theorem txt_zeros (i : Nat) : txt (List.replicate i false) ++ ByteArray.mk #[48] = txt (List.replicate (i + 1) false) := by
  have := txt_append (List.replicate i false) [false]
  rw [← List.replicate_succ'] at this
  exact this

set_option maxHeartbeats 1000000 in
/-- The document's text of a gamma code. -/
theorem text_gam (n : Nat) (w : World) (h0 : 1 ≤ n) (h1 : n ≤ 2097151) :
    Calls Try.prog 27 #[.int .i64 1, .int .i64 n] w fun e w' => e = .returned (.string (txt (gam n))) ∧ w = w' := by
  obtain ⟨b0, b1⟩ := blen_code h0 h1
  have hlt := fun k => blen_lt n (show n < 18446744073709551616 by omega) k
  have HG := Lib.hid (show txt (gam n) = txt (List.replicate (Lib.bitLen n - 1) false) ++ txt (dig n (Lib.bitLen n)) by rw [txt_append]; rfl)
  have HLT := Lib.hid hlt
  clear hlt
  generalize hL : Lib.bitLen n = L at *
  go_enter Try.func27, Try.ntmps27
  go_wp2
  go_loop [5, 6] (fun s m => ∃ j : Nat, j ≤ L ∧ s = .string (txt (dig n j)) ∧ m = .int .i64 (n / 2 ^ j : Nat)) (fun _ m => (intOf m).toNat)
  case atStart => exact ⟨0, Nat.zero_le _, by simp [txt, dig], by simp⟩
  case round =>
    obtain ⟨j, hj, rfl, rfl⟩ := hrel
    have HS := Lib.hid (dig_succ n j)
    have HT := Lib.hid (Nat.testBit_eq_decide_div_mod_eq (x := n) (i := j))
    have HD := Lib.hid (show n / 2 ^ (j + 1) = n / 2 ^ j / 2 by rw [Nat.pow_succ, Nat.div_div_eq_div_mul])
    have hyn : n / 2 ^ j ≤ n := Nat.div_le_self _ _
    by_cases hlt : j < L
    · have hy : 0 < n / 2 ^ j := Nat.div_pos (by
        rcases Nat.lt_or_ge n (2 ^ j) with h | h
        · have := (HLT.out j).2 h; omega
        · exact h) (Nat.two_pow_pos j)
      have hsz : (txt (dig n j)).size = j := by rw [txt_size, dig_length]
      have HX1 := Lib.hid (txt_one (dig n j))
      have HX0 := Lib.hid (txt_zero (dig n j))
      generalize n / 2 ^ j = y at *
      generalize txt (dig n j) = S at *
      by_cases hp : y % 2 = 1
      · have ht : ((y : Int).tmod 2 == 1) = true := by rw [Int.tmod_eq_emod_of_nonneg (by omega)]; simp; omega
        have hb : n.testBit j = true := by rw [HT.out]; simpa using hp
        rw [hb] at HS
        clear hb HT
        go_wp2
        go_round
        case rel => exact ⟨j + 1, by omega, by rw [HX1.out, ← HS.out], by rw [HD.out]; go_num⟩
        case measure => simp [intOf]; omega
      · have ht : ((y : Int).tmod 2 == 1) = false := by rw [Int.tmod_eq_emod_of_nonneg (by omega)]; simp; omega
        have hb : n.testBit j = false := by rw [HT.out]; simpa using hp
        rw [hb] at HS
        clear hb HT
        go_wp2
        go_round
        case rel => exact ⟨j + 1, by omega, by rw [HX0.out, ← HS.out], by rw [HD.out]; go_num⟩
        case measure => simp [intOf]; omega
    · obtain rfl : j = L := by omega
      have hy : n / 2 ^ j = 0 := Nat.div_eq_of_lt ((HLT.out j).1 (Nat.le_refl _))
      have hsz : (txt (dig n j)).size = j := by rw [txt_size, dig_length]
      rw [hy]
      clear hy hyn HS HT HD
      generalize txt (dig n j) = S at *
      go_wp2
      go_loop [7, 8] (fun s i => ∃ k : Nat, k + 1 ≤ j ∧ s = .string (txt (List.replicate k false)) ∧ i = .int .i64 (k + 1 : Nat)) (fun _ i => j - (intOf i).toNat)
      case atStart => exact ⟨0, by omega, by simp [txt], by simp⟩
      case round =>
        obtain ⟨k, hk, rfl, rfl⟩ := hrel
        have hsz2 : (txt (List.replicate k false)).size = k := by rw [txt_size]; simp
        by_cases hlt2 : k + 1 < j
        · have HX := Lib.hid (txt_zeros k)
          generalize txt (List.replicate k false) = S2 at *
          go_wp2
          go_round
          case rel => exact ⟨k + 1, by omega, by rw [HX.out], by go_num⟩
          case measure => simp [intOf]; omega
        · obtain rfl : j = k + 1 := by omega
          rw [Nat.add_sub_cancel] at HG
          generalize txt (List.replicate k false) = S2 at *
          go_wp2
          go_ret
          exact ⟨by rw [HG.out]; rfl, rfl⟩

theorem txt_tail (b : Bool) (l : List Bool) : (txt (b :: l)).extract 1 (l.length + 1) = txt l := by
  unfold txt
  apply ByteArray.ext
  simp [ByteArray.data_extract]
  exact List.take_of_length_le (by simp)

set_option maxHeartbeats 1000000 in
/-- The document's text of a delta code. -/
theorem text_del (n : Nat) (w : World) (h0 : 1 ≤ n) (h1 : n ≤ 2097151) :
    Calls Try.prog 27 #[.int .i64 2, .int .i64 n] w fun e w' => e = .returned (.string (txt (del n))) ∧ Below w.heap.size w w' := by
  obtain ⟨b0, b1⟩ := blen_code h0 h1
  have hlt := fun k => blen_lt n (show n < 18446744073709551616 by omega) k
  have HG := Lib.hid (show txt (del n) = txt (gam (Lib.bitLen n)) ++ txt (dig n (Lib.bitLen n - 1)) by rw [txt_append]; rfl)
  have HC := Lib.hid (text_gam (Lib.bitLen n) · b0 (by omega))
  have hgl := gam_length (Lib.bitLen n)
  obtain ⟨c0, c1⟩ := blen_code (n := Lib.bitLen n) b0 (by omega)
  have HLT := Lib.hid hlt
  clear hlt
  generalize hL : Lib.bitLen n = L at *
  go_enter Try.func27, Try.ntmps27
  go_wp2
  go_loop [5, 6] (fun s m => ∃ j : Nat, j ≤ L ∧ s = .string (txt (dig n j)) ∧ m = .int .i64 (n / 2 ^ j : Nat)) (fun _ m => (intOf m).toNat)
  case atStart => exact ⟨0, Nat.zero_le _, by simp [txt, dig], by simp⟩
  case round =>
    obtain ⟨j, hj, rfl, rfl⟩ := hrel
    have HS := Lib.hid (dig_succ n j)
    have HT := Lib.hid (Nat.testBit_eq_decide_div_mod_eq (x := n) (i := j))
    have HD := Lib.hid (show n / 2 ^ (j + 1) = n / 2 ^ j / 2 by rw [Nat.pow_succ, Nat.div_div_eq_div_mul])
    have hyn : n / 2 ^ j ≤ n := Nat.div_le_self _ _
    by_cases hlt : j < L
    · have hy : 0 < n / 2 ^ j := Nat.div_pos (by
        rcases Nat.lt_or_ge n (2 ^ j) with h | h
        · have := (HLT.out j).2 h; omega
        · exact h) (Nat.two_pow_pos j)
      have hsz : (txt (dig n j)).size = j := by rw [txt_size, dig_length]
      have HX1 := Lib.hid (txt_one (dig n j))
      have HX0 := Lib.hid (txt_zero (dig n j))
      generalize n / 2 ^ j = y at *
      generalize txt (dig n j) = S at *
      by_cases hp : y % 2 = 1
      · have ht : ((y : Int).tmod 2 == 1) = true := by rw [Int.tmod_eq_emod_of_nonneg (by omega)]; simp; omega
        have hb : n.testBit j = true := by rw [HT.out]; simpa using hp
        rw [hb] at HS
        clear hb HT
        go_wp2
        go_round
        case rel => exact ⟨j + 1, by omega, by rw [HX1.out, ← HS.out], by rw [HD.out]; go_num⟩
        case measure => simp [intOf]; omega
      · have ht : ((y : Int).tmod 2 == 1) = false := by rw [Int.tmod_eq_emod_of_nonneg (by omega)]; simp; omega
        have hb : n.testBit j = false := by rw [HT.out]; simpa using hp
        rw [hb] at HS
        clear hb HT
        go_wp2
        go_round
        case rel => exact ⟨j + 1, by omega, by rw [HX0.out, ← HS.out], by rw [HD.out]; go_num⟩
        case measure => simp [intOf]; omega
    · obtain rfl : j = L := by omega
      have hy : n / 2 ^ j = 0 := Nat.div_eq_of_lt ((HLT.out j).1 (Nat.le_refl _))
      have hsz : (txt (dig n j)).size = j := by rw [txt_size, dig_length]
      obtain ⟨k, rfl⟩ : ∃ k, j = k + 1 := ⟨j - 1, by omega⟩
      rw [Nat.add_sub_cancel] at HG
      simp only [Int.natCast_add] at HC
      have htl := txt_tail (n.testBit k) (dig n k)
      rw [dig_length, ← dig_succ] at htl
      have hs2 : (txt (gam (k + 1))).size ≤ 41 := by rw [txt_size]; omega
      have hs3 : (txt (dig n k)).size = k := by rw [txt_size, dig_length]
      rw [hy]
      clear hy hyn HS HT HD
      generalize txt (dig n (k + 1)) = S at *
      generalize txt (dig n k) = S3 at *
      generalize txt (gam (k + 1)) = S2 at *
      go_wp2
      go_quiet ((go_at_call 27; exact quiet1 HC))
      go_wp2
      go_ret
      exact ⟨by rw [HG.out]; rfl, bdN (Below.refl _ _) _⟩

/-- The document's text of a code. -/
theorem text_any (k n : Nat) (w : World) (hk : k = 1 ∨ k = 2) (h0 : 1 ≤ n) (h1 : n ≤ 2097151) :
    Calls Try.prog 27 #[.int .i64 k, .int .i64 n] w fun e w' => e = .returned (.string (txt (codeOf k n))) ∧ Below w.heap.size w w' := by
  rcases hk with rfl | rfl
  · exact (text_gam n w h0 h1).mono fun e w' ⟨he, hw⟩ => ⟨he, by rw [hw]; exact Below.refl _ _⟩
  · exact text_del n w h0 h1

/-- The document's Cost. -/
theorem rcost_any (k n : Int) (w : World) :
    Calls Try.prog 16 #[.int .i64 k, .int .i64 n] w fun e w' => e = .returned (.tuple #[.int .i64 ((costAns k n).1 : Nat), .int .i64 ((costAns k n).2 : Nat)]) ∧ Below w.heap.size w w' := by
  by_cases hk : k = 1 ∨ k = 2
  · by_cases hc : Codes n
    · have HA := Lib.hid (show costAns k n = (costOf k.toNat n.toNat, 0) by unfold costAns; rw [if_neg (fun h => h hk), if_neg (fun h => h hc)])
      obtain ⟨h0, h1⟩ := hc
      obtain ⟨m, rfl⟩ := Int.eq_ofNat_of_zero_le (a := n) (by omega)
      obtain ⟨q, rfl⟩ := Int.eq_ofNat_of_zero_le (a := k) (by omega)
      have hq : q = 1 ∨ q = 2 := by omega
      have HT := Lib.hid (text_any q m · hq (by omega) (by omega))
      have hsz : (txt (codeOf q m)).size = costOf q m := by rw [txt_size, codeOf_length q (by omega) (by omega)]
      have hcb := costOf_bound q (n := m) (by omega) (by omega)
      rw [Int.toNat_natCast, Int.toNat_natCast] at HA
      generalize txt (codeOf q m) = S at *
      generalize costOf q m = c at *
      clear hk
      rcases hq with rfl | rfl
      all_goals
        go_enter Try.func16, Try.ntmps16
        go_wp2_with (go_at_call 27; refine (HT.out _).mono ?_; rintro e w1 ⟨rfl, hb1⟩)
        rw [HA.out]
        go_ret2
        exact ⟨rfl, hb1⟩
    · have HA := Lib.hid (show costAns k n = (0, 2) by unfold costAns; rw [if_neg (fun h => h hk), if_pos hc])
      have hh : n < 1 ∨ (¬ n < 1 ∧ 1048576 < n) := by unfold Codes at hc; omega
      clear hc
      rcases hk with rfl | rfl
      all_goals
        rcases hh with d1 | ⟨d1, d2⟩
        all_goals
          go_enter Try.func16, Try.ntmps16
          go_wp2
          rw [HA.out]
          go_ret2
          exact ⟨rfl, Below.refl _ _⟩
  · have HA := Lib.hid (show costAns k n = (0, 3) by unfold costAns; rw [if_pos hk])
    have e1 : (k != 1) = true := by simp; omega
    have e2 : (k != 2) = true := by simp; omega
    clear hk
    go_enter Try.func16, Try.ntmps16
    go_wp2
    rw [HA.out]
    go_ret2
    exact ⟨rfl, Below.refl _ _⟩
end Go.Proofs.Ytelcnkmgdohigaa
