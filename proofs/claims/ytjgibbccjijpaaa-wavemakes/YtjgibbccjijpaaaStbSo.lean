/-
  What sort's symMerge_func, insertionSort_func and stable_func do to a row of numbers that are sorted by a key that is yes or no. No condition but what each theorem names.
-/
import Derived.Test.YtjgibbccjijpaaaStbSn
namespace Go.Proofs.Ytjgibbccjijpaaa
open Go.Shelf Go.RowKit Go.Lib Go.Sort

theorem sm_all (g : Nat) (lb : Array Value) (sf : Nat) (sb : Array Value) (key : Nat → Bool) (blk off size : Nat) (eg : ∀ args w, (callFunc g args).run Try.prog w = .ok (.enter g args) w) (hswap : SwapSwaps Try.prog sf sb encN blk off size) (hsz : size ≤ 1000000) : ∀ L, SmIH g lb sf sb key blk off size L
  | 0 => fun _ _ _ _ _ h => by omega
  | L + 1 => fun a m b d w h ham hmb hb hds hR hs hs2 => by
    have ih := sm_all g lb sf sb key blk off size eg hswap hsz L
    subst hds
    by_cases h1 : m = a + 1
    · exact sm_one g lb sf sb key blk off a m b d w eg hswap hR h1 hmb hb hsz hs2
    · by_cases h2 : b = m + 1
      · exact sm_last g lb sf sb key blk off a m b d w eg hswap hR (by omega) h2 hb hsz hs
      · exact sm_mid g lb sf sb key blk off a m b d w eg hswap hR (by omega) (by omega) hb hsz hs hs2 fun a' m' b' d' w' h' => ih a' m' b' d' w' (by omega)

theorem swo_klt (key : Nat → Bool) : SWO (klt key) := ⟨fun x => by unfold klt; cases key x <;> rfl, fun x y z => by unfold klt; cases key x <;> cases key y <;> cases key z <;> simp, fun x y z => by unfold klt; cases key x <;> cases key y <;> cases key z <;> simp⟩
theorem kept_inner {key : Nat → Bool} {a b : Nat} : ∀ (j : Nat) (d : Array Nat), j < b → b ≤ d.size → (insInner (klt key) a j d).size = d.size ∧ Kept key (rowF d) (rowF (insInner (klt key) a j d)) a b
  | 0, d, _, _ => ⟨rfl, Kept.refl _ _ _ _⟩
  | j + 1, d, hj, hb => by
    unfold insInner
    split
    · rename_i hc
      rw [Bool.and_eq_true, decide_eq_true_eq] at hc
      obtain ⟨k1, k2⟩ := klt_yes hc.2
      have e : rowF (swp d (j + 1) j) = rotF (rowF d) j (j + 1) (j + 2) := by
        rw [rowF_swp d (by omega) (by omega)]
        have := rotF_down (rowF d) (j + 1) j (by omega)
        rw [rotF_none] at this
        exact this
      obtain ⟨i1, i2⟩ := kept_inner (key := key) (a := a) (b := b) j (swp d (j + 1) j) (by omega) (by rw [size_swp]; exact hb)
      refine ⟨i1.trans (size_swp _ _ _), Kept.trans ?_ i2⟩
      rw [e]
      exact (kept_rot (by omega) (by omega) (fun x g1 g2 => by rw [show x = j by omega]; exact k2) (fun x g1 g2 => by rw [show x = j + 1 by omega]; exact k1)).wide (by omega) (by omega) (by omega)
    · exact ⟨rfl, Kept.refl _ _ _ _⟩
theorem kept_outer {key : Nat → Bool} {a b : Nat} : ∀ (k i : Nat) (d : Array Nat), b - i ≤ k → b ≤ d.size → (insOuter (klt key) a b i d).size = d.size ∧ Kept key (rowF d) (rowF (insOuter (klt key) a b i d)) a b
  | 0, i, d, h, _ => by
    rw [insOuter, if_neg (by omega)]
    exact ⟨rfl, Kept.refl _ _ _ _⟩
  | k + 1, i, d, h, hb => by
    rw [insOuter]
    by_cases hi : i < b
    · rw [if_pos hi]
      obtain ⟨i1, i2⟩ := kept_inner (key := key) (a := a) i d hi hb
      obtain ⟨o1, o2⟩ := kept_outer (key := key) (a := a) (b := b) k (i + 1) (insInner (klt key) a i d) (by omega) (by omega)
      exact ⟨o1.trans i1, i2.trans o2⟩
    · rw [if_neg hi]
      exact ⟨rfl, Kept.refl _ _ _ _⟩
theorem ins_any (g : Nat) (lb : Array Value) (sf : Nat) (sb : Array Value) (key : Nat → Bool) (blk off a b : Nat) (d : Array Nat) (w : World)
    (eg : ∀ args w, (callFunc g args).run Try.prog w = .ok (.enter g args) w) (hswap : SwapSwaps Try.prog sf sb encN blk off d.size) (hR : Rdy g lb key blk off d w) (hab : a ≤ b) (hb : b ≤ d.size) (hsz : d.size ≤ 1000000) :
    Calls Try.prog 99 #[.agg #[.func (.func g) #[] lb, .func (.func sf) #[] sb], .int .i64 a, .int .i64 b] w (Mrg key blk off d a b w) := by
  refine (Try.insertionSort_func_w encN (klt key) g lb sf sb blk off a b d w eg hR.hless hswap hR.hH hR.hblk hab hb (by omega)).mono ?_
  rintro e w' ⟨rfl, n, os, rfl⟩
  obtain ⟨h1, h2⟩ := kept_outer (key := key) (a := a) (b := b) (b - (a + 1)) (a + 1) d (Nat.le_refl _) hb
  have hs := (insertionSort_holds (swo_klt key) d a b hab hb).2
  exact ⟨rfl, insertionSort (klt key) d a b, h1, ⟨n, os, rfl⟩, h2, fun i j g1 g2 g3 hk => klt_no (hs i j g1 g2 g3) hk⟩

/-- In blocks of B, each sorted. -/
def Blks (key : Nat → Bool) (f : Nat → Nat) (B n : Nat) : Prop := ∀ k, Asc key f (k * B) (min (k * B + B) n)
theorem blks_end {key : Nat → Bool} {f : Nat → Nat} {B n q : Nat} (h1 : ∀ k, k < q → Asc key f (k * B) (k * B + B)) (h2 : Asc key f (q * B) n) (h3 : n < q * B + B) : Blks key f B n := fun k => by
  rcases Nat.lt_trichotomy k q with h | rfl | h
  · exact (h1 k h).sub (Nat.le_refl _) (Nat.min_le_left _ _)
  · exact h2.sub (Nat.le_refl _) (Nat.min_le_right _ _)
  · have : (q + 1) * B ≤ k * B := Nat.mul_le_mul_right B h
    rw [Nat.add_mul, Nat.one_mul] at this
    intro i j g1 g2 g3
    have := Nat.min_le_right (k * B + B) n
    omega
theorem Kept.ahead {key : Nat → Bool} {f g : Nat → Nat} {a b a' b' : Nat} (h : Kept key f g a b) (hs : Asc key f a' b') (hd : b' ≤ a ∨ b ≤ a') : Asc key g a' b' := hs.eq fun j g1 g2 => h.out j (by omega)

set_option maxHeartbeats 2000000 in
set_option maxRecDepth 100000 in
theorem stable_any (g : Nat) (lb : Array Value) (sf : Nat) (sb : Array Value) (key : Nat → Bool) (blk off n : Nat) (d : Array Nat) (w : World)
    (eg : ∀ args w, (callFunc g args).run Try.prog w = .ok (.enter g args) w) (hswap : SwapSwaps Try.prog sf sb encN blk off d.size) (hR : Rdy g lb key blk off d w) (hn : d.size = n) (hsz : n ≤ 1000000) :
    Calls Try.prog 70 #[.agg #[.func (.func g) #[] lb, .func (.func sf) #[] sb], .int .i64 n] w (Mrg key blk off d 0 n w) := by
  have HR := Lib.hid (hR.new (.cells #[.func (.func g) #[] lb, .func (.func sf) #[] sb] 105))
  have HB := Lib.hid hR.hblk
  have HBN := Lib.hid (show w.heap.size ≠ blk by have := hR.hblk; omega)
  have HI := Lib.hid fun a b (dk : Array Nat) W (hds : dk.size = d.size) (hw : SW encN (w.alloc (.cells #[.func (.func g) #[] lb, .func (.func sf) #[] sb] 105)) blk off dk W) (hab : a ≤ b) (hb : b ≤ dk.size) => ins_any g lb sf sb key blk off a b dk W eg (by rw [hds]; exact hswap) (HR.out.on hds hw) hab hb (by omega)
  have HM := Lib.hid fun a m b (dk : Array Nat) W (hds : dk.size = d.size) (hw : SW encN (w.alloc (.cells #[.func (.func g) #[] lb, .func (.func sf) #[] sb] 105)) blk off dk W) (ham : a < m) (hmb : m < b) (hb : b ≤ dk.size) (h1 : Asc key (rowF dk) a m) (h2 : Asc key (rowF dk) m b) => sm_all g lb sf sb key blk off d.size eg hswap (by omega) (b - a + 1) a m b dk W (by omega) ham hmb hb hds (HR.out.on hds hw) h1 h2
  have HD := Lib.hid hn
  clear hR hswap hn eg
  go_enter Try.func70, Try.ntmps70
  go_wp2_with fail
  go_loopw [5, 6] (fun x y wr => ∃ (q a b : Nat) (dk : Array Nat), x = .int .i64 a ∧ y = .int .i64 b ∧ b = a + 20 ∧ a = q * 20 ∧ a ≤ n ∧ dk.size = d.size ∧ SW encN (w.alloc (.cells #[.func (.func g) #[] lb, .func (.func sf) #[] sb] 105)) blk off dk wr ∧ Kept key (rowF d) (rowF dk) 0 n ∧ (∀ k, k < q → Asc key (rowF dk) (k * 20) (k * 20 + 20))) (fun _ y _ => n + 20 - (intOf y).toNat)
  case atStart => exact ⟨0, 0, 20, d, rfl, rfl, rfl, rfl, Nat.zero_le _, rfl, SW.start HR.out.hH, Kept.refl _ _ _ _, fun k hk => by omega⟩
  case round =>
    obtain ⟨q, a, b, dk, rfl, rfl, hba, haq, han, hds, hsw, hK, hA⟩ := hrel
    have hdn : dk.size = n := hds.trans HD.out
    have c0 := sw_at hsw w.heap.size 0 (.func (.func g) #[] lb) HBN.out (by simp) (by simp)
    have c1 := sw_at hsw w.heap.size 1 (.func (.func sf) #[] sb) HBN.out (by simp) (by simp)
    have HSW := Lib.hid hsw
    have HK := Lib.hid hK
    have HA := Lib.hid hA
    have HQ := Lib.hid haq
    have HBA := Lib.hid hba
    have HDs := Lib.hid hds
    by_cases hbn : b ≤ n
    · have HC := Lib.hid (HI.out a b dk wr hds hsw (by omega) (by omega))
      clear hsw hK hA haq hba hds
      go_wp2_with fail
      refine HC.out.mono ?_
      rintro e w1 ⟨rfl, d1, hd1, hsw1, hK1, hA1⟩
      have HSW1 := Lib.hid (sw_trans HSW.out HR.out.hblk hsw1 hd1)
      have HK1 := Lib.hid (HK.out.trans (hK1.wide (Nat.zero_le _) (by have := HBA.out; omega) hbn))
      have hA2 : ∀ k, k < q + 1 → Asc key (rowF d1) (k * 20) (k * 20 + 20) := fun k hk => by
        have h1 := HQ.out
        have h2 := HBA.out
        rcases Nat.lt_or_eq_of_le (Nat.le_of_lt_succ hk) with h | rfl
        · exact hK1.ahead (HA.out k h) (by omega)
        · rw [← h1, ← h2]; exact hA1
      have HA2 := Lib.hid hA2
      clear hsw1 hK1 hA1 hA2
      go_wp2_with fail
      go_roundw
      case rel => exact ⟨q + 1, b, b + 20, d1, rfl, by go_num, rfl, by have h1 := HQ.out; have h2 := HBA.out; omega, hbn, hd1.trans HDs.out, HSW1.out, HK1.out, HA2.out⟩
      case measure => simp [intOf]; omega
    · have HC := Lib.hid (HI.out a n dk wr hds hsw han (by omega))
      clear hsw hK hA haq hba hds
      go_wp2_with fail
      refine HC.out.mono ?_
      rintro e w1 ⟨rfl, d1, hd1, hsw1, hK1, hA1⟩
      have hbl : Blks key (rowF d1) 20 n := blks_end (q := q) (fun k hk => hK1.ahead (HA.out k hk) (by have h1 := HQ.out; omega)) (by rw [← HQ.out]; exact hA1) (by have h1 := HQ.out; have h2 := HBA.out; omega)
      have HBl := Lib.hid hbl
      have HSW1 := Lib.hid (sw_trans HSW.out HR.out.hblk hsw1 hd1)
      have HK1 := Lib.hid (HK.out.trans (hK1.wide (Nat.zero_le _) han (Nat.le_refl _)))
      have HD1 := Lib.hid (hd1.trans HDs.out)
      clear hsw1 hK1 hA1 hbl hd1 c0 c1 hbn hdn
      go_wp2_with fail
      go_loopw [4] (fun x wr => ∃ (B : Nat) (dk : Array Nat), x = .int .i64 B ∧ 20 ≤ B ∧ B ≤ 2000000 ∧ dk.size = d.size ∧ SW encN (w.alloc (.cells #[.func (.func g) #[] lb, .func (.func sf) #[] sb] 105)) blk off dk wr ∧ Kept key (rowF d) (rowF dk) 0 n ∧ Blks key (rowF dk) B n) (fun x _ => n - (intOf x).toNat)
      case atStart => exact ⟨20, d1, rfl, Nat.le_refl _, by omega, HD1.out, HSW1.out, HK1.out, HBl.out⟩
      case round =>
        obtain ⟨B, dk2, rfl, hB1, hB2, hds2, hsw2, hK2, hBl2⟩ := hrel
        have HSW2 := Lib.hid hsw2
        have HK2 := Lib.hid hK2
        have HBl2 := Lib.hid hBl2
        have HDs2 := Lib.hid hds2
        clear hsw2 hK2 hBl2 hds2
        by_cases hBn : B < n
        · obtain ⟨C, hC⟩ : ∃ C, C = 2 * B := ⟨_, rfl⟩
          have hC1 : 2 * (B : Int) = (C : Int) := by omega
          have hC2 : (B : Int) * 2 = (C : Int) := by omega
          have hCb : C ≤ 2000000 := by omega
          have HC := Lib.hid hC
          clear hC
          go_wp2_with fail
          go_loopw [5, 6] (fun x y wr => ∃ (q a b : Nat) (dk : Array Nat), x = .int .i64 a ∧ y = .int .i64 b ∧ b = a + C ∧ a = q * C ∧ a ≤ n ∧ dk.size = d.size ∧ SW encN (w.alloc (.cells #[.func (.func g) #[] lb, .func (.func sf) #[] sb] 105)) blk off dk wr ∧ Kept key (rowF d) (rowF dk) 0 n ∧ (∀ k, k < q → Asc key (rowF dk) (k * C) (k * C + C)) ∧ (∀ k, Asc key (rowF dk) (a + k * B) (min (a + k * B + B) n))) (fun _ y _ => n + C - (intOf y).toNat)
          case atStart => exact ⟨0, 0, C, dk2, rfl, rfl, by omega, by omega, Nat.zero_le _, HDs2.out, HSW2.out, HK2.out, fun k hk => by omega, fun k => by have := HBl2.out k; rwa [Nat.zero_add]⟩
          case round =>
            obtain ⟨q3, a3, b3, dk3, rfl, rfl, hba3, haq3, han3, hds3, hsw3, hK3, hA3, hR3⟩ := hrel
            have hdn3 : dk3.size = n := hds3.trans HD.out
            have c0 := sw_at hsw3 w.heap.size 0 (.func (.func g) #[] lb) HBN.out (by simp) (by simp)
            have c1 := sw_at hsw3 w.heap.size 1 (.func (.func sf) #[] sb) HBN.out (by simp) (by simp)
            have hr0 := hR3 0
            have hr1 := hR3 1
            rw [Nat.zero_mul, Nat.add_zero] at hr0
            rw [Nat.one_mul] at hr1
            have HSW3 := Lib.hid hsw3
            have HK3 := Lib.hid hK3
            have HA3 := Lib.hid hA3
            have HQ3 := Lib.hid haq3
            have HBA3 := Lib.hid hba3
            have HDs3 := Lib.hid hds3
            have HR3 := Lib.hid hR3
            have hCC := HC.out
            by_cases hbn3 : b3 ≤ n
            · rw [Nat.min_eq_left (by omega)] at hr0
              rw [Nat.min_eq_left (by omega)] at hr1
              have hc := HM.out a3 (a3 + B) b3 dk3 wr hds3 hsw3 (by omega) (by omega) (by omega) hr0 (by rw [show b3 = a3 + B + B by omega]; exact hr1)
              simp only [Int.natCast_add] at hc
              have HCl := Lib.hid hc
              clear hsw3 hK3 hA3 haq3 hba3 hds3 hR3 hr0 hr1 hc hCC
              go_wp2_with fail
              refine HCl.out.mono ?_
              rintro e w4 ⟨rfl, d4, hd4, hsw4, hK4, hA4⟩
              have HSW4 := Lib.hid (sw_trans HSW3.out HR.out.hblk hsw4 hd4)
              have HK4 := Lib.hid (HK3.out.trans (hK4.wide (Nat.zero_le _) (by have := HBA3.out; omega) hbn3))
              have hA5 : ∀ k, k < q3 + 1 → Asc key (rowF d4) (k * C) (k * C + C) := fun k hk => by
                have h1 := HQ3.out
                have h2 := HBA3.out
                rcases Nat.lt_or_eq_of_le (Nat.le_of_lt_succ hk) with h | rfl
                · have h3 : (k + 1) * C ≤ q3 * C := Nat.mul_le_mul_right C h
                  rw [Nat.add_mul, Nat.one_mul] at h3
                  exact hK4.ahead (HA3.out k h) (by omega)
                · rw [← h1, ← h2]; exact hA4
              have hR5 : ∀ k, Asc key (rowF d4) (b3 + k * B) (min (b3 + k * B + B) n) := fun k => by
                have h1 := HR3.out (k + 2)
                have h2 := HBA3.out
                have h3 := HC.out
                rw [Nat.add_mul, show a3 + (k * B + 2 * B) = b3 + k * B by omega] at h1
                exact hK4.ahead h1 (by omega)
              have HA5 := Lib.hid hA5
              have HR5 := Lib.hid hR5
              clear hsw4 hK4 hA4 hA5 hR5
              go_wp2_with fail
              go_roundw
              case rel => exact ⟨q3 + 1, b3, b3 + C, d4, rfl, by go_num, rfl, by have h1 := HQ3.out; have h2 := HBA3.out; rw [Nat.add_mul, Nat.one_mul]; omega, hbn3, hd4.trans HDs3.out, HSW4.out, HK4.out, HA5.out, HR5.out⟩
              case measure => simp [intOf]; omega
            · by_cases hmn : a3 + B < n
              · rw [Nat.min_eq_left (by omega)] at hr0
                rw [Nat.min_eq_right (by omega)] at hr1
                have hc := HM.out a3 (a3 + B) n dk3 wr hds3 hsw3 (by omega) hmn (by omega) hr0 hr1
                simp only [Int.natCast_add] at hc
                have HCl := Lib.hid hc
                clear hsw3 hK3 hA3 haq3 hba3 hds3 hR3 hr0 hr1 hc hCC
                go_wp2_with fail
                refine HCl.out.mono ?_
                rintro e w4 ⟨rfl, d4, hd4, hsw4, hK4, hA4⟩
                have HSW4 := Lib.hid (sw_trans HSW3.out HR.out.hblk hsw4 hd4)
                have HK4 := Lib.hid (HK3.out.trans (hK4.wide (Nat.zero_le _) han3 (Nat.le_refl _)))
                have hbl : Blks key (rowF d4) C n := blks_end (q := q3) (fun k hk => hK4.ahead (HA3.out k hk) (by
                  have h1 := HQ3.out
                  have h3 : (k + 1) * C ≤ q3 * C := Nat.mul_le_mul_right C hk
                  rw [Nat.add_mul, Nat.one_mul] at h3
                  omega)) (by rw [← HQ3.out]; exact hA4) (by have h1 := HQ3.out; have h2 := HBA3.out; omega)
                have HBl4 := Lib.hid hbl
                clear hsw4 hK4 hA4 hbl
                go_wp2_with fail
                go_roundw
                case rel => exact ⟨C, d4, rfl, by have := HC.out; omega, hCb, hd4.trans HDs3.out, HSW4.out, HK4.out, HBl4.out⟩
                case measure => have := HC.out; simp [intOf]; omega
              · have hbl : Blks key (rowF dk3) C n := blks_end (q := q3) hA3 (by
                  rw [← haq3]
                  rw [Nat.min_eq_right (by omega)] at hr0
                  exact hr0) (by omega)
                have HBl4 := Lib.hid hbl
                have g1 : decide (a3 + B < n) = false := by simpa using hmn
                clear hsw3 hK3 hA3 haq3 hba3 hds3 hR3 hr0 hr1 hCC hbl
                go_wp2_with fail
                go_roundw
                case rel => exact ⟨C, dk3, rfl, by have := HC.out; omega, hCb, HDs3.out, HSW3.out, HK3.out, HBl4.out⟩
                case measure => have := HC.out; simp [intOf]; omega
        · go_wp2_with fail
          go_end0
          refine ⟨rfl, dk2, HDs2.out, sw_alloc HSW2.out HB.out, HK2.out, ?_⟩
          have h := HBl2.out 0
          rw [Nat.zero_mul, Nat.zero_add, Nat.min_eq_right (by omega)] at h
          exact h
end Go.Proofs.Ytjgibbccjijpaaa
