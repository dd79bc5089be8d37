/-
  What sort's swapRange_func and rotate_func do to a row: contracts, walked over the translated text. What sort's symMerge_func does to a row whose two parts are sorted by whatever order: contracts, walked over the translated text. No condition but what each theorem names.
-/
import Derived.Test.YtpkclmfadlkbeaaDoorJ09
import Derived.Test.YtpkclmfadlkbeaaDoorJ01
namespace Go.Proofs.YtpkclmfadlkbeaaDoor
open Go.Shelf Go.RowKit Go.Lib Go.Sort
variable {α : Type} [Inhabited α] {enc : α → Value}

/-- The values of a row by their places. -/
def rowF (d : Array α) : Nat → α := fun j => d[j]!
theorem rowF_swp (d : Array α) {i j : Nat} (hi : i < d.size) (hj : j < d.size) : rowF (swp d i j) = fun k => if k = j then rowF d i else if k = i then rowF d j else rowF d k := funext fun k => swp_get d hi hj k

theorem sw_trans {enc : α → Value} {w0 W W' : World} {blk off : Nat} {dk dk' : Array α} (h1 : SW enc w0 blk off dk W) (hblk : blk < w0.heap.size) (h2 : SW enc W blk off dk' W') (hs : dk'.size = dk.size) : SW enc w0 blk off dk' W' := by
  obtain ⟨n, os, rfl⟩ := h2
  exact h1.on hblk n dk' os hs
theorem sw_alloc {enc : α → Value} {w w' : World} {o : Obj} {blk off : Nat} {X : Array α} (h : SW enc (w.alloc o) blk off X w') (hblk : blk < w.heap.size) : SW enc w blk off X w' := by
  obtain ⟨n, os, rfl⟩ := h
  exact ⟨n, _, sortWorld_alloc enc w o blk off n X os hblk⟩
theorem sw_at {enc : α → Value} {W w' : World} {blk off : Nat} {X : Array α} (h : SW enc W blk off X w') (b k : Nat) (v : Value) (hb : b ≠ blk) (hlt : b < W.heap.size) (hv : W.cell? ⟨b, k, none⟩ = some v) : w'.cell? ⟨b, k, none⟩ = some v := by
  obtain ⟨n, os, rfl⟩ := h
  unfold sortWorld
  rw [cell?_grow _ _ _ (by rw [size_putRow]; exact hlt), cell?_putRow_other enc _ blk off _ _ (Or.inl hb)]
  exact hv

/-- The call has returned, and the row holds what is said. -/
def Did (enc : α → Value) (blk off : Nat) (d : Array α) (F : Nat → α) (w : World) (e : Ending) (w' : World) : Prop := e = .returned (.tuple #[]) ∧ ∃ d' : Array α, d'.size = d.size ∧ SW enc w blk off d' w' ∧ rowF d' = F

set_option maxHeartbeats 1000000 in
set_option maxRecDepth 100000 in
theorem swapRange_any (lf : Fn) (la lb : Array Value) (sf : Nat) (sb : Array Value) (blk off a b n : Nat) (d : Array α) (w : World)
    (hswap : SwapSwaps Tryd.prog sf sb enc blk off d.size) (hH : Holds enc w blk off d) (hblk : blk < w.heap.size) (hab : a + n ≤ b) (hb : b + n ≤ d.size) (hsz : d.size ≤ 1000000) :
    Calls Tryd.prog 70 #[.agg #[.func lf la lb, .func (.func sf) #[] sb], .int .i64 a, .int .i64 b, .int .i64 n] w (Did enc blk off d (swF (rowF d) a b n) w) := by
  have hH1 : Holds enc (w.alloc (.cells #[.func lf la lb, .func (.func sf) #[] sb] 70)) blk off d := by rw [alloc_eq_grow]; exact holds_grow enc w _ blk off d hblk hH
  have HH := Lib.hid hH1
  have HB := Lib.hid hblk
  have HBN := Lib.hid (show w.heap.size ≠ blk by omega)
  have HSw := Lib.hid hswap
  clear hH1 hH hblk hswap
  go_enter Tryd.func70, Tryd.ntmps70
  go_wp2
  go_loopw [8] (fun s wr => ∃ (i : Nat) (dk : Array α), s = .int .i64 i ∧ i ≤ n ∧ dk.size = d.size ∧ SW enc (w.alloc (.cells #[.func lf la lb, .func (.func sf) #[] sb] 70)) blk off dk wr ∧ rowF dk = swF (rowF d) a b i) (fun s _ => n - (intOf s).toNat)
  case atStart => exact ⟨0, d, rfl, Nat.zero_le _, rfl, SW.start HH.out, (swF_zero _ _ _).symm⟩
  case round =>
    obtain ⟨i, dk, rfl, hin, hds, hsw, hF⟩ := hrel
    by_cases hlt : i < n
    · have hs := HSw.out wr dk (hsw.holds (by simp; exact Nat.lt_succ_of_lt HB.out) HH.out hds) hds (a + i) (b + i) (by omega) (by omega)
      have hnx := hsw.swap (by simp; exact Nat.lt_succ_of_lt HB.out) (a + i) (b + i) (by omega) (by omega)
      have c1 := sw_at hsw w.heap.size 1 (.func (.func sf) #[] sb) HBN.out (by simp) (by simp)
      have hFn : rowF (swp dk (a + i) (b + i)) = swF (rowF d) a b (i + 1) := by
        rw [rowF_swp dk (by omega) (by omega), hF, swF_succ _ _ _ _ (by omega)]
      have HNx := Lib.hid hnx
      have HFn := Lib.hid hFn
      simp only [Int.natCast_add] at hs
      have HS := Lib.hid hs
      clear hsw hF hnx hFn hs
      go_wp2
      rw [HS.out, Oper.upon_value]
      go_wp2
      go_roundw
      case rel => exact ⟨i + 1, swp dk (a + i) (b + i), by go_num, by omega, by rw [size_swp]; exact hds, HNx.out, HFn.out⟩
      case measure => simp [intOf]; omega
    · obtain rfl : i = n := by omega
      have HSW := Lib.hid hsw
      clear hsw
      go_wp2
      go_end0
      exact ⟨rfl, dk, hds, sw_alloc HSW.out HB.out, hF⟩
set_option maxHeartbeats 1000000 in
set_option maxRecDepth 100000 in
/-- rotate_func: the values from m on come ahead of the values from a on. -/
theorem rotate_any (lf : Fn) (la lb : Array Value) (sf : Nat) (sb : Array Value) (blk off a m b : Nat) (d : Array α) (w : World)
    (hswap : SwapSwaps Tryd.prog sf sb enc blk off d.size) (hH : Holds enc w blk off d) (hblk : blk < w.heap.size) (ham : a < m) (hmb : m < b) (hb : b ≤ d.size) (hsz : d.size ≤ 1000000) :
    Calls Tryd.prog 62 #[.agg #[.func lf la lb, .func (.func sf) #[] sb], .int .i64 a, .int .i64 m, .int .i64 b] w (Did enc blk off d (rotF (rowF d) a m b) w) := by
  have hH1 : Holds enc (w.alloc (.cells #[.func lf la lb, .func (.func sf) #[] sb] 70)) blk off d := by rw [alloc_eq_grow]; exact holds_grow enc w _ blk off d hblk hH
  have HH := Lib.hid hH1
  have HB := Lib.hid hblk
  have HBN := Lib.hid (show w.heap.size ≠ blk by omega)
  have HSw := Lib.hid hswap
  have HSt := Lib.hid (SW.start hH1)
  clear hH1 hH hblk hswap
  go_enter Tryd.func62, Tryd.ntmps62
  go_wp2
  go_loopw [8, 9] (fun s t wr => ∃ (i j : Nat) (dk : Array α), s = .int .i64 i ∧ t = .int .i64 j ∧ 0 < i ∧ 0 < j ∧ i ≤ m ∧ m + j ≤ d.size ∧ dk.size = d.size ∧ SW enc (w.alloc (.cells #[.func lf la lb, .func (.func sf) #[] sb] 70)) blk off dk wr ∧ rotF (rowF dk) (m - i) m (m + j) = rotF (rowF d) a m b) (fun s t _ => (intOf s).toNat + (intOf t).toNat)
  case atStart => exact ⟨m - a, b - m, d, by go_num, by go_num, by omega, by omega, by omega, by omega, rfl, HSt.out, by rw [show m - (m - a) = a by omega, show m + (b - m) = b by omega]⟩
  case round =>
    obtain ⟨i, j, dk, rfl, rfl, hi, hj, him, hmj, hds, hsw, hF⟩ := hrel
    have hblk1 : blk < (w.alloc (.cells #[.func lf la lb, .func (.func sf) #[] sb] 70)).heap.size := by simp; exact Nat.lt_succ_of_lt HB.out
    have hHk := hsw.holds hblk1 HH.out hds
    have hbk := hsw.lt hblk1
    have c0 := sw_at hsw w.heap.size 0 (.func lf la lb) HBN.out (by simp) (by simp)
    have c1 := sw_at hsw w.heap.size 1 (.func (.func sf) #[] sb) HBN.out (by simp) (by simp)
    have HSW := Lib.hid hsw
    have HF := Lib.hid hF
    have HB1 := Lib.hid hblk1
    rcases Nat.lt_trichotomy i j with hlt | heq | hgt
    · have hc := swapRange_any lf la lb sf sb blk off (m - i) (m + j - i) i dk wr (by rw [hds]; exact HSw.out) hHk hbk (by omega) (by omega) (by omega)
      rw [show ((m - i : Nat) : Int) = (m : Int) - (i : Int) by omega, show ((m + j - i : Nat) : Int) = (m : Int) + (j : Int) - (i : Int) by omega] at hc
      have HC := Lib.hid hc
      clear hsw hF hHk hbk hblk1 hc
      go_wp2_with fail
      refine HC.out.mono ?_
      rintro e w1 ⟨rfl, d1, hs1, hsw1, hF1⟩
      have HSW1 := Lib.hid (sw_trans HSW.out HB1.out hsw1 hs1)
      have HF1 := Lib.hid hF1
      clear hsw1 hF1
      go_wp2_with fail
      go_roundw
      case rel => exact ⟨i, j - i, d1, rfl, by go_num, hi, by omega, him, by omega, by omega, HSW1.out, by rw [HF1.out, rotF_right _ _ _ _ him hlt]; exact HF.out⟩
      case measure => simp [intOf]; omega
    · subst heq
      have hc := swapRange_any lf la lb sf sb blk off (m - i) m i dk wr (by rw [hds]; exact HSw.out) hHk hbk (by omega) (by omega) (by omega)
      rw [show ((m - i : Nat) : Int) = (m : Int) - (i : Int) by omega] at hc
      have HC := Lib.hid hc
      clear hsw hF hHk hbk hblk1 hc
      go_wp2_with fail
      refine HC.out.mono ?_
      rintro e w1 ⟨rfl, d1, hs1, hsw1, hF1⟩
      have HSW1 := Lib.hid (sw_trans HSW.out HB1.out hsw1 hs1)
      have HF1 := Lib.hid hF1
      clear hsw1 hF1
      go_wp2_with fail
      go_end0
      exact ⟨rfl, d1, by omega, sw_alloc HSW1.out HB.out, by rw [HF1.out, rotF_even _ _ _ him]; exact HF.out⟩
    · have hc := swapRange_any lf la lb sf sb blk off (m - i) m j dk wr (by rw [hds]; exact HSw.out) hHk hbk (by omega) (by omega) (by omega)
      rw [show ((m - i : Nat) : Int) = (m : Int) - (i : Int) by omega] at hc
      have HC := Lib.hid hc
      clear hsw hF hHk hbk hblk1 hc
      go_wp2_with fail
      refine HC.out.mono ?_
      rintro e w1 ⟨rfl, d1, hs1, hsw1, hF1⟩
      have HSW1 := Lib.hid (sw_trans HSW.out HB1.out hsw1 hs1)
      have HF1 := Lib.hid hF1
      clear hsw1 hF1
      go_wp2_with fail
      go_roundw
      case rel => exact ⟨i - j, j, d1, by go_num, rfl, by omega, hj, by omega, hmj, by omega, HSW1.out, by rw [HF1.out, rotF_left _ _ _ _ him hgt]; exact HF.out⟩
      case measure => simp [intOf]; omega
end Go.Proofs.YtpkclmfadlkbeaaDoor

namespace Go.Proofs.YtpkclmfadlkbeaaDoor
open Go.Shelf Go.RowKit Go.Lib Go.Sort
variable {α : Type} [Inhabited α] {enc : α → Value}

/-- What is asked of the closure: in every world that the sort passes through it answers whether the one is less than the other; it may lay new blocks. -/
def LessG (g : Nat) (lb : Array Value) (enc : α → Value) (lt : α → α → Bool) (blk off size : Nat) (w : World) : Prop :=
  ∀ (W : World) (dk : Array α), dk.size = size → SW enc w blk off dk W → ∀ i j : Nat, i < size → j < size →
    Calls Tryd.prog g (#[.int .i64 i, .int .i64 j] ++ lb) W fun e w' => e = .returned (.bool (lt dk[i]! dk[j]!)) ∧ SW enc W blk off dk w'
/-- What lies ready for the sort, at a world. -/
structure Rdy (g : Nat) (lb : Array Value) (enc : α → Value) (lt : α → α → Bool) (blk off : Nat) (d : Array α) (W : World) : Prop where
  hless : LessG g lb enc lt blk off d.size W
  hH : Holds enc W blk off d
  hblk : blk < W.heap.size
theorem Rdy.on {g : Nat} {lb : Array Value} {lt : α → α → Bool} {blk off : Nat} {d d' : Array α} {W W' : World} (h : Rdy g lb enc lt blk off d W) (hs : d'.size = d.size) (hw : SW enc W blk off d' W') : Rdy g lb enc lt blk off d' W' :=
  ⟨fun W2 dk hk hsw i j hi hj => h.hless W2 dk (hk.trans hs) (sw_trans hw h.hblk hsw (by omega)) i j (by omega) (by omega), hw.holds h.hblk h.hH hs, hw.lt h.hblk⟩
theorem Rdy.new {g : Nat} {lb : Array Value} {lt : α → α → Bool} {blk off : Nat} {d : Array α} {W : World} (h : Rdy g lb enc lt blk off d W) (o : Obj) : Rdy g lb enc lt blk off d (W.alloc o) := h.on rfl ((SW.start h.hH).alloc o)
theorem Rdy.lss {g : Nat} {lb : Array Value} {lt : α → α → Bool} {blk off : Nat} {d : Array α} {W : World} (h : Rdy g lb enc lt blk off d W) (i j : Nat) (hi : i < d.size) (hj : j < d.size) : Calls Tryd.prog g (#[.int .i64 i, .int .i64 j] ++ lb) W fun e w' => e = .returned (.bool (lt (rowF d i) (rowF d j))) ∧ SW enc W blk off d w' := h.hless W d rfl (SW.start h.hH) i j hi hj
/-- The call has returned, and the row is sorted from a up to b. -/
def Mrg (enc : α → Value) (lt : α → α → Bool) (blk off : Nat) (d : Array α) (a b : Nat) (w : World) (e : Ending) (w' : World) : Prop := e = .returned (.tuple #[]) ∧ ∃ d' : Array α, d'.size = d.size ∧ SW enc w blk off d' w' ∧ Kept lt (rowF d) (rowF d') a b ∧ Asc lt (rowF d') a b

set_option maxHeartbeats 1000000 in
set_option maxRecDepth 100000 in
theorem sm_one (g : Nat) (lb : Array Value) (sf : Nat) (sb : Array Value) (lt : α → α → Bool) (blk off a m b : Nat) (d : Array α) (w : World)
    (eg : ∀ args w, (callFunc g args).run Tryd.prog w = .ok (.enter g args) w) (hO : SWO lt) (hswap : SwapSwaps Tryd.prog sf sb enc blk off d.size) (hR : Rdy g lb enc lt blk off d w) (ham : m = a + 1) (hmb : m < b) (hb : b ≤ d.size) (hsz : d.size ≤ 1000000) (hs : Asc lt (rowF d) m b) :
    Calls Tryd.prog 52 #[.agg #[.func (.func g) #[] lb, .func (.func sf) #[] sb], .int .i64 a, .int .i64 m, .int .i64 b] w (Mrg enc lt blk off d a b w) := by
  have HO := Lib.hid hO
  have HR := Lib.hid (hR.new (.cells #[.func (.func g) #[] lb, .func (.func sf) #[] sb] 70))
  have HB := Lib.hid hR.hblk
  have HBN := Lib.hid (show w.heap.size ≠ blk by have := hR.hblk; omega)
  have HSw := Lib.hid hswap
  have HS := Lib.hid hs
  clear hO hR hswap hs
  have hma : ((m : Int) - (a : Int) == 1) = true := by simp; omega
  have HAM := Lib.hid ham
  have ham' : a < m := by omega
  clear ham
  go_enter Tryd.func52, Tryd.ntmps52
  go_wp2
  clear hma
  go_loopw [8, 9] (fun s t wr => ∃ i j : Nat, s = .int .i64 i ∧ t = .int .i64 j ∧ m ≤ i ∧ i ≤ j ∧ j ≤ b ∧ SW enc (w.alloc (.cells #[.func (.func g) #[] lb, .func (.func sf) #[] sb] 70)) blk off d wr ∧ (i = m ∨ lt (rowF d (i - 1)) (rowF d a) = true) ∧ (j = b ∨ lt (rowF d j) (rowF d a) = false)) (fun s t _ => (intOf t).toNat - (intOf s).toNat)
  case atStart => exact ⟨m, b, rfl, rfl, Nat.le_refl _, by omega, Nat.le_refl _, SW.start HR.out.hH, .inl rfl, .inl rfl⟩
  case round =>
    obtain ⟨i, j, rfl, rfl, him, hij, hjb, hsw, hlo, hhi⟩ := hrel
    have HSW := Lib.hid hsw
    have HLo := Lib.hid hlo
    have HHi := Lib.hid hhi
    have c0 := sw_at hsw w.heap.size 0 (.func (.func g) #[] lb) HBN.out (by simp) (by simp)
    clear hlo hhi hsw
    by_cases hlt : i < j
    · obtain ⟨s, hs⟩ : ∃ s, s = i + j := ⟨_, rfl⟩
      have hsum : (i : Int) + (j : Int) = (s : Int) := by omega
      have hhf : (s : Int) / 2 = ((s / 2 : Nat) : Int) := by omega
      have hm1 : i ≤ s / 2 := by omega
      have hm2 : s / 2 < j := by omega
      have hsb : s ≤ 2000000 := by omega
      clear hs
      generalize s / 2 = k at *
      have HC := Lib.hid ((HR.out.on rfl HSW.out).lss k a (by omega) (by have := HAM.out; omega))
      cases hv : lt (rowF d k) (rowF d a) with
      | true =>
        rw [hv] at HC
        go_wp2_with (go_at_fn g; refine HC.out.mono ?_; rintro e w' ⟨rfl, hsx⟩; have HSX := Lib.hid (sw_trans HSW.out HR.out.hblk hsx rfl); clear hsx)
        go_roundw
        case rel => exact ⟨k + 1, j, by go_num, rfl, by omega, by omega, hjb, HSX.out, .inr hv, HHi.out⟩
        case measure => simp [intOf]; omega
      | false =>
        rw [hv] at HC
        go_wp2_with (go_at_fn g; refine HC.out.mono ?_; rintro e w' ⟨rfl, hsx⟩; have HSX := Lib.hid (sw_trans HSW.out HR.out.hblk hsx rfl); clear hsx)
        go_roundw
        case rel => exact ⟨i, k, rfl, rfl, him, by omega, by omega, HSX.out, HLo.out, .inr hv⟩
        case measure => simp [intOf]; omega
    · obtain rfl : i = j := by omega
      have hmg := merge_one HO.out (b := b) (by rw [← HAM.out]; exact HS.out) (by rw [← HAM.out]; exact him) hjb (by rw [← HAM.out]; exact HLo.out) HHi.out
      have HMg := Lib.hid hmg
      clear hmg c0
      go_wp2
      go_loopw [11] (fun s w2 => ∃ (k : Nat) (dk : Array α), s = .int .i64 k ∧ a ≤ k ∧ k + 1 ≤ i ∧ dk.size = d.size ∧ SW enc (w.alloc (.cells #[.func (.func g) #[] lb, .func (.func sf) #[] sb] 70)) blk off dk w2 ∧ rowF dk = rotF (rowF d) a (a + 1) (k + 1)) (fun s _ => i - (intOf s).toNat)
      case atStart => exact ⟨a, d, rfl, Nat.le_refl _, by have := HAM.out; omega, rfl, HSW.out, (rotF_none' _ _ _).symm⟩
      case round =>
        obtain ⟨k, dk, rfl, hak, hki, hds, hsw2, hF⟩ := hrel
        by_cases hlt2 : k + 1 < i
        · have hs := HSw.out _ dk (hsw2.holds HR.out.hblk HR.out.hH hds) hds k (k + 1) (by omega) (by omega)
          have hnx := hsw2.swap HR.out.hblk k (k + 1) (by omega) (by omega)
          have c1 := sw_at hsw2 w.heap.size 1 (.func (.func sf) #[] sb) HBN.out (by simp) (by simp)
          have hFn : rowF (swp dk k (k + 1)) = rotF (rowF d) a (a + 1) (k + 2) := by
            rw [rowF_swp dk (by omega) (by omega), hF]
            exact rotF_up _ _ _ hak
          have HNx := Lib.hid hnx
          have HFn := Lib.hid hFn
          simp only [Int.natCast_add, Int.natCast_one] at hs
          have HS2 := Lib.hid hs
          clear hsw2 hF hnx hFn hs
          have hki1 : (k : Int) < (i : Int) - 1 := by omega
          go_wp2
          rw [HS2.out, Oper.upon_value]
          go_wp2
          go_roundw
          case rel => exact ⟨k + 1, swp dk k (k + 1), by go_num, by omega, by omega, by rw [size_swp]; exact hds, HNx.out, HFn.out⟩
          case measure => simp [intOf]; omega
        · obtain rfl : k + 1 = i := by omega
          have HS2 := Lib.hid hsw2
          have HF := Lib.hid hF
          clear hsw2 hF
          go_wp2
          go_end0
          exact ⟨rfl, dk, hds, sw_alloc HS2.out HB.out, by rw [HF.out]; exact HMg.out.1, by rw [HF.out]; exact HMg.out.2⟩

set_option maxHeartbeats 1000000 in
set_option maxRecDepth 100000 in
theorem sm_last (g : Nat) (lb : Array Value) (sf : Nat) (sb : Array Value) (lt : α → α → Bool) (blk off a m b : Nat) (d : Array α) (w : World)
    (eg : ∀ args w, (callFunc g args).run Tryd.prog w = .ok (.enter g args) w) (hO : SWO lt) (hswap : SwapSwaps Tryd.prog sf sb enc blk off d.size) (hR : Rdy g lb enc lt blk off d w) (ham : a + 1 < m) (hmb : b = m + 1) (hb : b ≤ d.size) (hsz : d.size ≤ 1000000) (hs : Asc lt (rowF d) a m) :
    Calls Tryd.prog 52 #[.agg #[.func (.func g) #[] lb, .func (.func sf) #[] sb], .int .i64 a, .int .i64 m, .int .i64 b] w (Mrg enc lt blk off d a b w) := by
  have HO := Lib.hid hO
  have HR := Lib.hid (hR.new (.cells #[.func (.func g) #[] lb, .func (.func sf) #[] sb] 70))
  have HB := Lib.hid hR.hblk
  have HBN := Lib.hid (show w.heap.size ≠ blk by have := hR.hblk; omega)
  have HSw := Lib.hid hswap
  have HS := Lib.hid hs
  clear hO hR hswap hs
  have hma : ((m : Int) - (a : Int) == 1) = false := by simp; omega
  have hmb1 : ((b : Int) - (m : Int) == 1) = true := by simp; omega
  have HBM := Lib.hid hmb
  have hmd : m < d.size := by omega
  clear hmb
  go_enter Tryd.func52, Tryd.ntmps52
  go_wp2
  clear hma hmb1
  go_loopw [12, 13] (fun s t wr => ∃ i j : Nat, s = .int .i64 i ∧ t = .int .i64 j ∧ a ≤ i ∧ i ≤ j ∧ j ≤ m ∧ SW enc (w.alloc (.cells #[.func (.func g) #[] lb, .func (.func sf) #[] sb] 70)) blk off d wr ∧ (i = a ∨ lt (rowF d m) (rowF d (i - 1)) = false) ∧ (j = m ∨ lt (rowF d m) (rowF d j) = true)) (fun s t _ => (intOf t).toNat - (intOf s).toNat)
  case atStart => exact ⟨a, m, rfl, rfl, Nat.le_refl _, by omega, Nat.le_refl _, SW.start HR.out.hH, .inl rfl, .inl rfl⟩
  case round =>
    obtain ⟨i, j, rfl, rfl, hai, hij, hjm, hsw, hlo, hhi⟩ := hrel
    have HSW := Lib.hid hsw
    have HLo := Lib.hid hlo
    have HHi := Lib.hid hhi
    have c0 := sw_at hsw w.heap.size 0 (.func (.func g) #[] lb) HBN.out (by simp) (by simp)
    clear hlo hhi hsw
    by_cases hlt : i < j
    · obtain ⟨s, hs⟩ : ∃ s, s = i + j := ⟨_, rfl⟩
      have hsum : (i : Int) + (j : Int) = (s : Int) := by omega
      have hhf : (s : Int) / 2 = ((s / 2 : Nat) : Int) := by omega
      have hm1 : i ≤ s / 2 := by omega
      have hm2 : s / 2 < j := by omega
      have hsb : s ≤ 2000000 := by omega
      clear hs
      generalize s / 2 = k at *
      have HC := Lib.hid ((HR.out.on rfl HSW.out).lss m k (by omega) (by omega))
      cases hv : lt (rowF d m) (rowF d k) with
      | true =>
        rw [hv] at HC
        go_wp2_with (go_at_fn g; refine HC.out.mono ?_; rintro e w' ⟨rfl, hsx⟩; have HSX := Lib.hid (sw_trans HSW.out HR.out.hblk hsx rfl); clear hsx)
        go_roundw
        case rel => exact ⟨i, k, rfl, rfl, hai, by omega, by omega, HSX.out, HLo.out, .inr hv⟩
        case measure => simp [intOf]; omega
      | false =>
        rw [hv] at HC
        go_wp2_with (go_at_fn g; refine HC.out.mono ?_; rintro e w' ⟨rfl, hsx⟩; have HSX := Lib.hid (sw_trans HSW.out HR.out.hblk hsx rfl); clear hsx)
        go_roundw
        case rel => exact ⟨k + 1, j, by go_num, rfl, by omega, by omega, hjm, HSX.out, .inr hv, HHi.out⟩
        case measure => simp [intOf]; omega
    · obtain rfl : i = j := by omega
      have hmg := merge_last HO.out HS.out hai hjm HLo.out HHi.out
      rw [← HBM.out] at hmg
      have HMg := Lib.hid hmg
      clear hmg c0
      go_wp2
      go_loopw [15] (fun s w2 => ∃ (k : Nat) (dk : Array α), s = .int .i64 k ∧ i ≤ k ∧ k ≤ m ∧ dk.size = d.size ∧ SW enc (w.alloc (.cells #[.func (.func g) #[] lb, .func (.func sf) #[] sb] 70)) blk off dk w2 ∧ rowF dk = rotF (rowF d) k m (m + 1)) (fun s _ => (intOf s).toNat)
      case atStart => exact ⟨m, d, rfl, hjm, Nat.le_refl _, rfl, HSW.out, (rotF_none _ _ _).symm⟩
      case round =>
        obtain ⟨k, dk, rfl, hik, hkm, hds, hsw2, hF⟩ := hrel
        by_cases hlt2 : i < k
        · obtain ⟨p, rfl⟩ : ∃ p, k = p + 1 := ⟨k - 1, by omega⟩
          have hs := HSw.out _ dk (hsw2.holds HR.out.hblk HR.out.hH hds) hds (p + 1) p (by omega) (by omega)
          have hnx := hsw2.swap HR.out.hblk (p + 1) p (by omega) (by omega)
          have c1 := sw_at hsw2 w.heap.size 1 (.func (.func sf) #[] sb) HBN.out (by simp) (by simp)
          have hFn : rowF (swp dk (p + 1) p) = rotF (rowF d) p m (m + 1) := by
            rw [rowF_swp dk (by omega) (by omega), hF]
            exact rotF_down _ _ _ (by omega)
          have HNx := Lib.hid hnx
          have HFn := Lib.hid hFn
          simp only [Int.natCast_add, Int.natCast_one] at hs
          have HS2 := Lib.hid hs
          have hpp : (p : Int) + 1 - 1 = (p : Int) := by omega
          have hip : (i : Int) < (p : Int) + 1 := by omega
          clear hsw2 hF hnx hFn hs
          go_wp2
          rw [HS2.out, Oper.upon_value]
          go_wp2
          go_roundw
          case rel => exact ⟨p, swp dk (p + 1) p, by go_num, by omega, by omega, by rw [size_swp]; exact hds, HNx.out, HFn.out⟩
          case measure => simp [intOf]
        · obtain rfl : k = i := by omega
          have HS2 := Lib.hid hsw2
          have HF := Lib.hid hF
          clear hsw2 hF
          go_wp2
          go_end0
          exact ⟨rfl, dk, hds, sw_alloc HS2.out HB.out, by rw [HF.out, ← HBM.out]; exact HMg.out.1, by rw [HF.out, ← HBM.out]; exact HMg.out.2⟩
end Go.Proofs.YtpkclmfadlkbeaaDoor
