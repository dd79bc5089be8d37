/-
  What sort's swapRange_func and rotate_func do to a row of numbers: contracts, walked over the translated text. No condition but what each theorem names.
-/
import Derived.Test.YtjgibbccjijpaaaStab
import Derived.Test.YtjgibbccjijpaaaMem
import Derived.Test.YtjgibbccjijpaaaStbMat
namespace Go.Proofs.Ytjgibbccjijpaaa
open Go.Shelf Go.RowKit Go.Lib Go.Sort

/-- A number as a value: kept below 2^22, so that every number is one that an int holds. -/
def encN (x : Nat) : Value := .int .i64 ((x % 4194304 : Nat) : Int)
/-- The values of a row by their places. -/
def rowF (d : Array Nat) : Nat → Nat := fun j => d[j]!
theorem rowF_swp (d : Array Nat) {i j : Nat} (hi : i < d.size) (hj : j < d.size) : rowF (swp d i j) = fun k => if k = j then rowF d i else if k = i then rowF d j else rowF d k := funext fun k => swp_get d hi hj k

theorem sw_trans {enc : Nat → Value} {w0 W W' : World} {blk off : Nat} {dk dk' : Array Nat} (h1 : SW enc w0 blk off dk W) (hblk : blk < w0.heap.size) (h2 : SW enc W blk off dk' W') (hs : dk'.size = dk.size) : SW enc w0 blk off dk' W' := by
  obtain ⟨n, os, rfl⟩ := h2
  exact h1.on hblk n dk' os hs
theorem sw_alloc {enc : Nat → Value} {w w' : World} {o : Obj} {blk off : Nat} {X : Array Nat} (h : SW enc (w.alloc o) blk off X w') (hblk : blk < w.heap.size) : SW enc w blk off X w' := by
  obtain ⟨n, os, rfl⟩ := h
  exact ⟨n, _, sortWorld_alloc enc w o blk off n X os hblk⟩
theorem sw_at {enc : Nat → Value} {W w' : World} {blk off : Nat} {X : Array Nat} (h : SW enc W blk off X w') (b k : Nat) (v : Value) (hb : b ≠ blk) (hlt : b < W.heap.size) (hv : W.cell? ⟨b, k, none⟩ = some v) : w'.cell? ⟨b, k, none⟩ = some v := by
  obtain ⟨n, os, rfl⟩ := h
  unfold sortWorld
  rw [cell?_grow _ _ _ (by rw [size_putRow]; exact hlt), cell?_putRow_other enc _ blk off _ _ (Or.inl hb)]
  exact hv

/-- The call has returned, and the row holds what is said. -/
def Did (blk off : Nat) (d : Array Nat) (F : Nat → Nat) (w : World) (e : Ending) (w' : World) : Prop := e = .returned (.tuple #[]) ∧ ∃ d' : Array Nat, d'.size = d.size ∧ SW encN w blk off d' w' ∧ rowF d' = F

set_option maxHeartbeats 1000000 in
set_option maxRecDepth 100000 in
theorem swapRange_any (lf : Fn) (la lb : Array Value) (sf : Nat) (sb : Array Value) (blk off a b n : Nat) (d : Array Nat) (w : World)
    (hswap : SwapSwaps Try.prog sf sb encN blk off d.size) (hH : Holds encN w blk off d) (hblk : blk < w.heap.size) (hab : a + n ≤ b) (hb : b + n ≤ d.size) (hsz : d.size ≤ 1000000) :
    Calls Try.prog 110 #[.agg #[.func lf la lb, .func (.func sf) #[] sb], .int .i64 a, .int .i64 b, .int .i64 n] w (Did blk off d (swF (rowF d) a b n) w) := by
  have hH1 : Holds encN (w.alloc (.cells #[.func lf la lb, .func (.func sf) #[] sb] 105)) blk off d := by rw [alloc_eq_grow]; exact holds_grow encN w _ blk off d hblk hH
  have HH := Lib.hid hH1
  have HB := Lib.hid hblk
  have HBN := Lib.hid (show w.heap.size ≠ blk by omega)
  have HSw := Lib.hid hswap
  clear hH1 hH hblk hswap
  go_enter Try.func110, Try.ntmps110
  go_wp2
  go_loopw [8] (fun s wr => ∃ (i : Nat) (dk : Array Nat), s = .int .i64 i ∧ i ≤ n ∧ dk.size = d.size ∧ SW encN (w.alloc (.cells #[.func lf la lb, .func (.func sf) #[] sb] 105)) blk off dk wr ∧ rowF dk = swF (rowF d) a b i) (fun s _ => n - (intOf s).toNat)
  case atStart => exact ⟨0, d, rfl, Nat.zero_le _, rfl, SW.start HH.out, (swF_zero _ _ _).symm⟩
  case round =>
    obtain ⟨i, dk, rfl, hin, hds, hsw, hF⟩ := hrel
    by_cases hlt : i < n
    · have hs := HSw.out wr dk (hsw.holds (by simp; exact Nat.lt_succ_of_lt HB.out) HH.out hds) hds (a + i) (b + i) (by omega) (by omega)
      have hnx := hsw.swap (by simp; exact Nat.lt_succ_of_lt HB.out) (a + i) (b + i) (by omega) (by omega)
      have c1 := sw_at hsw w.heap.size 1 (.func (.func sf) #[] sb) HBN.out (by simp) (by simp)
      have hFn : rowF (swp dk (a + i) (b + i)) = swF (rowF d) a b (i + 1) := by
        rw [rowF_swp dk (by omega) (by omega), hF, swF_succ _ _ _ _ (by omega)]
      have HNx := Lib.hid hnx
      have HFn := Lib.hid hFn
      simp only [Int.natCast_add] at hs
      have HS := Lib.hid hs
      clear hsw hF hnx hFn hs
      go_wp2
      rw [HS.out, Oper.upon_value]
      go_wp2
      go_roundw
      case rel => exact ⟨i + 1, swp dk (a + i) (b + i), by go_num, by omega, by rw [size_swp]; exact hds, HNx.out, HFn.out⟩
      case measure => simp [intOf]; omega
    · obtain rfl : i = n := by omega
      have HSW := Lib.hid hsw
      clear hsw
      go_wp2
      go_end0
      exact ⟨rfl, dk, hds, sw_alloc HSW.out HB.out, hF⟩
set_option maxHeartbeats 1000000 in
set_option maxRecDepth 100000 in
/-- rotate_func: the values from m on come ahead of the values from a on. -/
theorem rotate_any (lf : Fn) (la lb : Array Value) (sf : Nat) (sb : Array Value) (blk off a m b : Nat) (d : Array Nat) (w : World)
    (hswap : SwapSwaps Try.prog sf sb encN blk off d.size) (hH : Holds encN w blk off d) (hblk : blk < w.heap.size) (ham : a < m) (hmb : m < b) (hb : b ≤ d.size) (hsz : d.size ≤ 1000000) :
    Calls Try.prog 106 #[.agg #[.func lf la lb, .func (.func sf) #[] sb], .int .i64 a, .int .i64 m, .int .i64 b] w (Did blk off d (rotF (rowF d) a m b) w) := by
  have hH1 : Holds encN (w.alloc (.cells #[.func lf la lb, .func (.func sf) #[] sb] 105)) blk off d := by rw [alloc_eq_grow]; exact holds_grow encN w _ blk off d hblk hH
  have HH := Lib.hid hH1
  have HB := Lib.hid hblk
  have HBN := Lib.hid (show w.heap.size ≠ blk by omega)
  have HSw := Lib.hid hswap
  have HSt := Lib.hid (SW.start hH1)
  clear hH1 hH hblk hswap
  go_enter Try.func106, Try.ntmps106
  go_wp2
  go_loopw [8, 9] (fun s t wr => ∃ (i j : Nat) (dk : Array Nat), s = .int .i64 i ∧ t = .int .i64 j ∧ 0 < i ∧ 0 < j ∧ i ≤ m ∧ m + j ≤ d.size ∧ dk.size = d.size ∧ SW encN (w.alloc (.cells #[.func lf la lb, .func (.func sf) #[] sb] 105)) blk off dk wr ∧ rotF (rowF dk) (m - i) m (m + j) = rotF (rowF d) a m b) (fun s t _ => (intOf s).toNat + (intOf t).toNat)
  case atStart => exact ⟨m - a, b - m, d, by go_num, by go_num, by omega, by omega, by omega, by omega, rfl, HSt.out, by rw [show m - (m - a) = a by omega, show m + (b - m) = b by omega]⟩
  case round =>
    obtain ⟨i, j, dk, rfl, rfl, hi, hj, him, hmj, hds, hsw, hF⟩ := hrel
    have hblk1 : blk < (w.alloc (.cells #[.func lf la lb, .func (.func sf) #[] sb] 105)).heap.size := by simp; exact Nat.lt_succ_of_lt HB.out
    have hHk := hsw.holds hblk1 HH.out hds
    have hbk := hsw.lt hblk1
    have c0 := sw_at hsw w.heap.size 0 (.func lf la lb) HBN.out (by simp) (by simp)
    have c1 := sw_at hsw w.heap.size 1 (.func (.func sf) #[] sb) HBN.out (by simp) (by simp)
    have HSW := Lib.hid hsw
    have HF := Lib.hid hF
    have HB1 := Lib.hid hblk1
    rcases Nat.lt_trichotomy i j with hlt | heq | hgt
    · have hc := swapRange_any lf la lb sf sb blk off (m - i) (m + j - i) i dk wr (by rw [hds]; exact HSw.out) hHk hbk (by omega) (by omega) (by omega)
      rw [show ((m - i : Nat) : Int) = (m : Int) - (i : Int) by omega, show ((m + j - i : Nat) : Int) = (m : Int) + (j : Int) - (i : Int) by omega] at hc
      have HC := Lib.hid hc
      clear hsw hF hHk hbk hblk1 hc
      go_wp2_with fail
      refine HC.out.mono ?_
      rintro e w1 ⟨rfl, d1, hs1, hsw1, hF1⟩
      have HSW1 := Lib.hid (sw_trans HSW.out HB1.out hsw1 hs1)
      have HF1 := Lib.hid hF1
      clear hsw1 hF1
      go_wp2_with fail
      go_roundw
      case rel => exact ⟨i, j - i, d1, rfl, by go_num, hi, by omega, him, by omega, by omega, HSW1.out, by rw [HF1.out, rotF_right _ _ _ _ him hlt]; exact HF.out⟩
      case measure => simp [intOf]; omega
    · subst heq
      have hc := swapRange_any lf la lb sf sb blk off (m - i) m i dk wr (by rw [hds]; exact HSw.out) hHk hbk (by omega) (by omega) (by omega)
      rw [show ((m - i : Nat) : Int) = (m : Int) - (i : Int) by omega] at hc
      have HC := Lib.hid hc
      clear hsw hF hHk hbk hblk1 hc
      go_wp2_with fail
      refine HC.out.mono ?_
      rintro e w1 ⟨rfl, d1, hs1, hsw1, hF1⟩
      have HSW1 := Lib.hid (sw_trans HSW.out HB1.out hsw1 hs1)
      have HF1 := Lib.hid hF1
      clear hsw1 hF1
      go_wp2_with fail
      go_end0
      exact ⟨rfl, d1, by omega, sw_alloc HSW1.out HB.out, by rw [HF1.out, rotF_even _ _ _ him]; exact HF.out⟩
    · have hc := swapRange_any lf la lb sf sb blk off (m - i) m j dk wr (by rw [hds]; exact HSw.out) hHk hbk (by omega) (by omega) (by omega)
      rw [show ((m - i : Nat) : Int) = (m : Int) - (i : Int) by omega] at hc
      have HC := Lib.hid hc
      clear hsw hF hHk hbk hblk1 hc
      go_wp2_with fail
      refine HC.out.mono ?_
      rintro e w1 ⟨rfl, d1, hs1, hsw1, hF1⟩
      have HSW1 := Lib.hid (sw_trans HSW.out HB1.out hsw1 hs1)
      have HF1 := Lib.hid hF1
      clear hsw1 hF1
      go_wp2_with fail
      go_roundw
      case rel => exact ⟨i - j, j, d1, by go_num, rfl, by omega, hj, by omega, hmj, by omega, HSW1.out, by rw [HF1.out, rotF_left _ _ _ _ him hgt]; exact HF.out⟩
      case measure => simp [intOf]; omega
end Go.Proofs.Ytjgibbccjijpaaa
