/-
  What sort's symMerge_func does to a row of numbers whose two parts are sorted by a key that is yes or no: contracts, walked over the translated text. No condition but what each theorem names.
-/
import Derived.Test.YtjgibbccjijpaaaStbWk
namespace Go.Proofs.Ytjgibbccjijpaaa
open Go.Shelf Go.RowKit Go.Lib Go.Sort

/-- What lies ready for the sort, at a world. -/
structure Rdy (g : Nat) (lb : Array Value) (key : Nat → Bool) (blk off : Nat) (d : Array Nat) (W : World) : Prop where
  hless : LessReads Try.prog g lb encN (klt key) blk off d.size W
  hH : Holds encN W blk off d
  hblk : blk < W.heap.size
theorem Rdy.on {g : Nat} {lb : Array Value} {key : Nat → Bool} {blk off : Nat} {d d' : Array Nat} {W W' : World} (h : Rdy g lb key blk off d W) (hs : d'.size = d.size) (hw : SW encN W blk off d' W') : Rdy g lb key blk off d' W' := ⟨by rw [hs]; exact hw.lessReads h.hless h.hblk hs, hw.holds h.hblk h.hH hs, hw.lt h.hblk⟩
theorem Rdy.new {g : Nat} {lb : Array Value} {key : Nat → Bool} {blk off : Nat} {d : Array Nat} {W : World} (h : Rdy g lb key blk off d W) (o : Obj) : Rdy g lb key blk off d (W.alloc o) := h.on rfl ((SW.start h.hH).alloc o)
theorem Rdy.lss {g : Nat} {lb : Array Value} {key : Nat → Bool} {blk off : Nat} {d : Array Nat} {W : World} (h : Rdy g lb key blk off d W) (i j : Nat) (hi : i < d.size) (hj : j < d.size) : Calls Try.prog g (#[.int .i64 i, .int .i64 j] ++ lb) W fun e w' => e = .returned (.bool (klt key (rowF d i) (rowF d j))) ∧ ∃ q, w' = W.drewN q := (SW.start h.hH).less h.hless rfl i j hi hj
/-- The call has returned, and the row is sorted by the key from a up to b. -/
def Mrg (key : Nat → Bool) (blk off : Nat) (d : Array Nat) (a b : Nat) (w : World) (e : Ending) (w' : World) : Prop := e = .returned (.tuple #[]) ∧ ∃ d' : Array Nat, d'.size = d.size ∧ SW encN w blk off d' w' ∧ Kept key (rowF d) (rowF d') a b ∧ Asc key (rowF d') a b

set_option maxHeartbeats 1000000 in
set_option maxRecDepth 100000 in
theorem sm_one (g : Nat) (lb : Array Value) (sf : Nat) (sb : Array Value) (key : Nat → Bool) (blk off a m b : Nat) (d : Array Nat) (w : World)
    (eg : ∀ args w, (callFunc g args).run Try.prog w = .ok (.enter g args) w) (hswap : SwapSwaps Try.prog sf sb encN blk off d.size) (hR : Rdy g lb key blk off d w) (ham : m = a + 1) (hmb : m < b) (hb : b ≤ d.size) (hsz : d.size ≤ 1000000) (hs : Asc key (rowF d) m b) :
    Calls Try.prog 100 #[.agg #[.func (.func g) #[] lb, .func (.func sf) #[] sb], .int .i64 a, .int .i64 m, .int .i64 b] w (Mrg key blk off d a b w) := by
  have HR := Lib.hid (hR.new (.cells #[.func (.func g) #[] lb, .func (.func sf) #[] sb] 105))
  have HB := Lib.hid hR.hblk
  have HBN := Lib.hid (show w.heap.size ≠ blk by have := hR.hblk; omega)
  have HSw := Lib.hid hswap
  have HS := Lib.hid hs
  clear hR hswap hs
  have hma : ((m : Int) - (a : Int) == 1) = true := by simp; omega
  have HAM := Lib.hid ham
  have ham' : a < m := by omega
  clear ham
  go_enter Try.func100, Try.ntmps100
  go_wp2
  clear hma
  go_loopw [8, 9] (fun s t wr => ∃ i j : Nat, s = .int .i64 i ∧ t = .int .i64 j ∧ m ≤ i ∧ i ≤ j ∧ j ≤ b ∧ SW encN (w.alloc (.cells #[.func (.func g) #[] lb, .func (.func sf) #[] sb] 105)) blk off d wr ∧ (i = m ∨ klt key (rowF d (i - 1)) (rowF d a) = true) ∧ (j = b ∨ klt key (rowF d j) (rowF d a) = false)) (fun s t _ => (intOf t).toNat - (intOf s).toNat)
  case atStart => exact ⟨m, b, rfl, rfl, Nat.le_refl _, by omega, Nat.le_refl _, SW.start HR.out.hH, .inl rfl, .inl rfl⟩
  case round =>
    obtain ⟨i, j, rfl, rfl, him, hij, hjb, hsw, hlo, hhi⟩ := hrel
    have HSW := Lib.hid hsw
    have HLo := Lib.hid hlo
    have HHi := Lib.hid hhi
    have c0 := sw_at hsw w.heap.size 0 (.func (.func g) #[] lb) HBN.out (by simp) (by simp)
    clear hlo hhi hsw
    by_cases hlt : i < j
    · obtain ⟨s, hs⟩ : ∃ s, s = i + j := ⟨_, rfl⟩
      have hsum : (i : Int) + (j : Int) = (s : Int) := by omega
      have hhf : (s : Int) / 2 = ((s / 2 : Nat) : Int) := by omega
      have hm1 : i ≤ s / 2 := by omega
      have hm2 : s / 2 < j := by omega
      have hsb : s ≤ 2000000 := by omega
      clear hs
      generalize s / 2 = k at *
      have HC := Lib.hid ((HR.out.on rfl HSW.out).lss k a (by omega) (by have := HAM.out; omega))
      cases hv : klt key (rowF d k) (rowF d a) with
      | true =>
        rw [hv] at HC
        go_wp2_with (go_at_fn g; refine HC.out.mono ?_; rintro e w' ⟨rfl, q, rfl⟩)
        go_roundw
        case rel => exact ⟨k + 1, j, by go_num, rfl, by omega, by omega, hjb, HSW.out.drewN q, .inr hv, HHi.out⟩
        case measure => simp [intOf]; omega
      | false =>
        rw [hv] at HC
        go_wp2_with (go_at_fn g; refine HC.out.mono ?_; rintro e w' ⟨rfl, q, rfl⟩)
        go_roundw
        case rel => exact ⟨i, k, rfl, rfl, him, by omega, by omega, HSW.out.drewN q, HLo.out, .inr hv⟩
        case measure => simp [intOf]; omega
    · obtain rfl : i = j := by omega
      have hmg := merge_one (b := b) (by rw [← HAM.out]; exact HS.out) (by rw [← HAM.out]; exact him) hjb (by rw [← HAM.out]; exact HLo.out) HHi.out
      have HMg := Lib.hid hmg
      clear hmg c0
      go_wp2
      go_loopw [11] (fun s w2 => ∃ (k : Nat) (dk : Array Nat), s = .int .i64 k ∧ a ≤ k ∧ k + 1 ≤ i ∧ dk.size = d.size ∧ SW encN (w.alloc (.cells #[.func (.func g) #[] lb, .func (.func sf) #[] sb] 105)) blk off dk w2 ∧ rowF dk = rotF (rowF d) a (a + 1) (k + 1)) (fun s _ => i - (intOf s).toNat)
      case atStart => exact ⟨a, d, rfl, Nat.le_refl _, by have := HAM.out; omega, rfl, HSW.out, (rotF_none' _ _ _).symm⟩
      case round =>
        obtain ⟨k, dk, rfl, hak, hki, hds, hsw2, hF⟩ := hrel
        by_cases hlt2 : k + 1 < i
        · have hs := HSw.out _ dk (hsw2.holds HR.out.hblk HR.out.hH hds) hds k (k + 1) (by omega) (by omega)
          have hnx := hsw2.swap HR.out.hblk k (k + 1) (by omega) (by omega)
          have c1 := sw_at hsw2 w.heap.size 1 (.func (.func sf) #[] sb) HBN.out (by simp) (by simp)
          have hFn : rowF (swp dk k (k + 1)) = rotF (rowF d) a (a + 1) (k + 2) := by
            rw [rowF_swp dk (by omega) (by omega), hF]
            exact rotF_up _ _ _ hak
          have HNx := Lib.hid hnx
          have HFn := Lib.hid hFn
          simp only [Int.natCast_add, Int.natCast_one] at hs
          have HS2 := Lib.hid hs
          clear hsw2 hF hnx hFn hs
          have hki1 : (k : Int) < (i : Int) - 1 := by omega
          go_wp2
          rw [HS2.out, Oper.upon_value]
          go_wp2
          go_roundw
          case rel => exact ⟨k + 1, swp dk k (k + 1), by go_num, by omega, by omega, by rw [size_swp]; exact hds, HNx.out, HFn.out⟩
          case measure => simp [intOf]; omega
        · obtain rfl : k + 1 = i := by omega
          have HS2 := Lib.hid hsw2
          have HF := Lib.hid hF
          clear hsw2 hF
          go_wp2
          go_end0
          exact ⟨rfl, dk, hds, sw_alloc HS2.out HB.out, by rw [HF.out]; exact HMg.out.1, by rw [HF.out]; exact HMg.out.2⟩

set_option maxHeartbeats 1000000 in
set_option maxRecDepth 100000 in
theorem sm_last (g : Nat) (lb : Array Value) (sf : Nat) (sb : Array Value) (key : Nat → Bool) (blk off a m b : Nat) (d : Array Nat) (w : World)
    (eg : ∀ args w, (callFunc g args).run Try.prog w = .ok (.enter g args) w) (hswap : SwapSwaps Try.prog sf sb encN blk off d.size) (hR : Rdy g lb key blk off d w) (ham : a + 1 < m) (hmb : b = m + 1) (hb : b ≤ d.size) (hsz : d.size ≤ 1000000) (hs : Asc key (rowF d) a m) :
    Calls Try.prog 100 #[.agg #[.func (.func g) #[] lb, .func (.func sf) #[] sb], .int .i64 a, .int .i64 m, .int .i64 b] w (Mrg key blk off d a b w) := by
  have HR := Lib.hid (hR.new (.cells #[.func (.func g) #[] lb, .func (.func sf) #[] sb] 105))
  have HB := Lib.hid hR.hblk
  have HBN := Lib.hid (show w.heap.size ≠ blk by have := hR.hblk; omega)
  have HSw := Lib.hid hswap
  have HS := Lib.hid hs
  clear hR hswap hs
  have hma : ((m : Int) - (a : Int) == 1) = false := by simp; omega
  have hmb1 : ((b : Int) - (m : Int) == 1) = true := by simp; omega
  have HBM := Lib.hid hmb
  have hmd : m < d.size := by omega
  clear hmb
  go_enter Try.func100, Try.ntmps100
  go_wp2
  clear hma hmb1
  go_loopw [12, 13] (fun s t wr => ∃ i j : Nat, s = .int .i64 i ∧ t = .int .i64 j ∧ a ≤ i ∧ i ≤ j ∧ j ≤ m ∧ SW encN (w.alloc (.cells #[.func (.func g) #[] lb, .func (.func sf) #[] sb] 105)) blk off d wr ∧ (i = a ∨ klt key (rowF d m) (rowF d (i - 1)) = false) ∧ (j = m ∨ klt key (rowF d m) (rowF d j) = true)) (fun s t _ => (intOf t).toNat - (intOf s).toNat)
  case atStart => exact ⟨a, m, rfl, rfl, Nat.le_refl _, by omega, Nat.le_refl _, SW.start HR.out.hH, .inl rfl, .inl rfl⟩
  case round =>
    obtain ⟨i, j, rfl, rfl, hai, hij, hjm, hsw, hlo, hhi⟩ := hrel
    have HSW := Lib.hid hsw
    have HLo := Lib.hid hlo
    have HHi := Lib.hid hhi
    have c0 := sw_at hsw w.heap.size 0 (.func (.func g) #[] lb) HBN.out (by simp) (by simp)
    clear hlo hhi hsw
    by_cases hlt : i < j
    · obtain ⟨s, hs⟩ : ∃ s, s = i + j := ⟨_, rfl⟩
      have hsum : (i : Int) + (j : Int) = (s : Int) := by omega
      have hhf : (s : Int) / 2 = ((s / 2 : Nat) : Int) := by omega
      have hm1 : i ≤ s / 2 := by omega
      have hm2 : s / 2 < j := by omega
      have hsb : s ≤ 2000000 := by omega
      clear hs
      generalize s / 2 = k at *
      have HC := Lib.hid ((HR.out.on rfl HSW.out).lss m k (by omega) (by omega))
      cases hv : klt key (rowF d m) (rowF d k) with
      | true =>
        rw [hv] at HC
        go_wp2_with (go_at_fn g; refine HC.out.mono ?_; rintro e w' ⟨rfl, q, rfl⟩)
        go_roundw
        case rel => exact ⟨i, k, rfl, rfl, hai, by omega, by omega, HSW.out.drewN q, HLo.out, .inr hv⟩
        case measure => simp [intOf]; omega
      | false =>
        rw [hv] at HC
        go_wp2_with (go_at_fn g; refine HC.out.mono ?_; rintro e w' ⟨rfl, q, rfl⟩)
        go_roundw
        case rel => exact ⟨k + 1, j, by go_num, rfl, by omega, by omega, hjm, HSW.out.drewN q, .inr hv, HHi.out⟩
        case measure => simp [intOf]; omega
    · obtain rfl : i = j := by omega
      have hmg := merge_last HS.out hai hjm HLo.out HHi.out
      rw [← HBM.out] at hmg
      have HMg := Lib.hid hmg
      clear hmg c0
      go_wp2
      go_loopw [15] (fun s w2 => ∃ (k : Nat) (dk : Array Nat), s = .int .i64 k ∧ i ≤ k ∧ k ≤ m ∧ dk.size = d.size ∧ SW encN (w.alloc (.cells #[.func (.func g) #[] lb, .func (.func sf) #[] sb] 105)) blk off dk w2 ∧ rowF dk = rotF (rowF d) k m (m + 1)) (fun s _ => (intOf s).toNat)
      case atStart => exact ⟨m, d, rfl, hjm, Nat.le_refl _, rfl, HSW.out, (rotF_none _ _ _).symm⟩
      case round =>
        obtain ⟨k, dk, rfl, hik, hkm, hds, hsw2, hF⟩ := hrel
        by_cases hlt2 : i < k
        · obtain ⟨p, rfl⟩ : ∃ p, k = p + 1 := ⟨k - 1, by omega⟩
          have hs := HSw.out _ dk (hsw2.holds HR.out.hblk HR.out.hH hds) hds (p + 1) p (by omega) (by omega)
          have hnx := hsw2.swap HR.out.hblk (p + 1) p (by omega) (by omega)
          have c1 := sw_at hsw2 w.heap.size 1 (.func (.func sf) #[] sb) HBN.out (by simp) (by simp)
          have hFn : rowF (swp dk (p + 1) p) = rotF (rowF d) p m (m + 1) := by
            rw [rowF_swp dk (by omega) (by omega), hF]
            exact rotF_down _ _ _ (by omega)
          have HNx := Lib.hid hnx
          have HFn := Lib.hid hFn
          simp only [Int.natCast_add, Int.natCast_one] at hs
          have HS2 := Lib.hid hs
          have hpp : (p : Int) + 1 - 1 = (p : Int) := by omega
          have hip : (i : Int) < (p : Int) + 1 := by omega
          clear hsw2 hF hnx hFn hs
          go_wp2
          rw [HS2.out, Oper.upon_value]
          go_wp2
          go_roundw
          case rel => exact ⟨p, swp dk (p + 1) p, by go_num, by omega, by omega, by rw [size_swp]; exact hds, HNx.out, HFn.out⟩
          case measure => simp [intOf]
        · obtain rfl : k = i := by omega
          have HS2 := Lib.hid hsw2
          have HF := Lib.hid hF
          clear hsw2 hF
          go_wp2
          go_end0
          exact ⟨rfl, dk, hds, sw_alloc HS2.out HB.out, by rw [HF.out, ← HBM.out]; exact HMg.out.1, by rw [HF.out, ← HBM.out]; exact HMg.out.2⟩
end Go.Proofs.Ytjgibbccjijpaaa
