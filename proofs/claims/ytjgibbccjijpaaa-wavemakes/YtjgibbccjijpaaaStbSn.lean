/-
  What sort's symMerge_func does to a row of numbers whose two parts are sorted: the turn about the middle, and the whole. No condition but what each theorem names.
-/
import Derived.Deep.Cut
import Derived.Test.YtjgibbccjijpaaaStbSm
namespace Go.Proofs.Ytjgibbccjijpaaa
open Go.Shelf Go.RowKit Go.Lib Go.Sort

/-- What is known of shorter ranges. -/
def SmIH (g : Nat) (lb : Array Value) (sf : Nat) (sb : Array Value) (key : Nat → Bool) (blk off size L : Nat) : Prop :=
  ∀ (a m b : Nat) (d : Array Nat) (w : World), b - a < L → a < m → m < b → b ≤ d.size → d.size = size → Rdy g lb key blk off d w → Asc key (rowF d) a m → Asc key (rowF d) m b →
    Calls Try.prog 100 #[.agg #[.func (.func g) #[] lb, .func (.func sf) #[] sb], .int .i64 a, .int .i64 m, .int .i64 b] w (Mrg key blk off d a b w)
theorem asc_or {key : Nat → Bool} {f : Nat → Nat} {a s c : Nat} (h1 : a ≤ s) (h2 : s ≤ c) (h : ¬ (a < s ∧ s < c)) (p1 : Asc key f a s) (p2 : Asc key f s c) : Asc key f a c := by
  rcases Nat.lt_or_eq_of_le h1 with c1 | rfl
  · rcases Nat.lt_or_eq_of_le h2 with c2 | rfl
    · exact absurd ⟨c1, c2⟩ h
    · exact p1
  · exact p2

set_option maxHeartbeats 2000000 in
set_option maxRecDepth 100000 in
theorem sm_mid (g : Nat) (lb : Array Value) (sf : Nat) (sb : Array Value) (key : Nat → Bool) (blk off a m b : Nat) (d : Array Nat) (w : World)
    (eg : ∀ args w, (callFunc g args).run Try.prog w = .ok (.enter g args) w) (hswap : SwapSwaps Try.prog sf sb encN blk off d.size) (hR : Rdy g lb key blk off d w) (ham : a + 1 < m) (hmb : m + 1 < b) (hb : b ≤ d.size) (hsz : d.size ≤ 1000000) (hs : Asc key (rowF d) a m) (hs2 : Asc key (rowF d) m b) (hih : SmIH g lb sf sb key blk off d.size (b - a)) :
    Calls Try.prog 100 #[.agg #[.func (.func g) #[] lb, .func (.func sf) #[] sb], .int .i64 a, .int .i64 m, .int .i64 b] w (Mrg key blk off d a b w) := by
  have HR := Lib.hid (hR.new (.cells #[.func (.func g) #[] lb, .func (.func sf) #[] sb] 105))
  have HB := Lib.hid hR.hblk
  have HBN := Lib.hid (show w.heap.size ≠ blk by have := hR.hblk; omega)
  have HSw := Lib.hid hswap
  have HA := Lib.hid hs
  have HA2 := Lib.hid hs2
  have HI := Lib.hid hih
  clear hR hswap hs hs2 hih
  have hma : ((m : Int) - (a : Int) == 1) = false := by simp; omega
  have hmb1 : ((b : Int) - (m : Int) == 1) = false := by simp; omega
  obtain ⟨S, hS⟩ : ∃ S, S = a + b := ⟨_, rfl⟩
  have hsum : (a : Int) + (b : Int) = (S : Int) := by omega
  have hhf : (S : Int) / 2 = ((S / 2 : Nat) : Int) := by omega
  have hc1 : 2 * (S / 2) ≤ a + b := by omega
  have hc2 : a + b ≤ 2 * (S / 2) + 1 := by omega
  have hsb : S ≤ 2000000 := by omega
  clear hS
  generalize S / 2 = c at *
  obtain ⟨n, hn⟩ : ∃ n, n = c + m := ⟨_, rfl⟩
  have hcn : (c : Int) + (m : Int) = (n : Int) := by omega
  obtain ⟨p, hp⟩ : ∃ p, p + 1 = n := ⟨n - 1, by omega⟩
  have hpn : (n : Int) - 1 = (p : Int) := by omega
  obtain ⟨s0, r0, hsr1, hsr2⟩ : ∃ s0 r0, (c < m → s0 + b = n ∧ r0 = c) ∧ (¬ c < m → s0 = a ∧ r0 = m) := by
    by_cases h : c < m
    · exact ⟨n - b, c, fun _ => ⟨by omega, rfl⟩, fun h' => absurd h h'⟩
    · exact ⟨a, m, fun h' => absurd h' h, fun _ => ⟨rfl, rfl⟩⟩
  have hac : a + 2 ≤ c := by omega
  have hcb : c + 2 ≤ b := by omega
  have HSR1 := Lib.hid hsr1
  have HSR2 := Lib.hid hsr2
  have q1 : a ≤ s0 := by omega
  have q2 : s0 ≤ r0 := by omega
  have q3 : r0 ≤ m := by omega
  have q4 : r0 ≤ c := by omega
  have q5 : n ≤ s0 + b := by omega
  have Q6 : Hid (s0 = a ∨ s0 + b = n) := Lib.hid (by omega)
  have Q7 : Hid (r0 = m ∨ r0 = c) := Lib.hid (by omega)
  have HN := Lib.hid hn
  have HP := Lib.hid hp
  have hnb : n ≤ 2000000 := by omega
  have hpb : p < n := by omega
  clear hsr1 hsr2 hn hp
  go_enter Try.func100, Try.ntmps100
  go_upto_if 106 with fail
  go_cut [18, 19] from 107 (fun x y wx => x = .int .i64 s0 ∧ y = .int .i64 r0 ∧ wx = (w.alloc (.cells #[.func (.func g) #[] lb, .func (.func sf) #[] sb] 105)))
  case first =>
    by_cases hmc : c < m
    · have h := HSR1.out hmc
      have hd : (n : Int) - (b : Int) = (s0 : Int) := by omega
      have he : (c : Int) = (r0 : Int) := by omega
      go_wp2_with fail
      go_meet
      case rel => exact ⟨rfl, by first | rfl | rw [he], rfl⟩
    · have h := HSR2.out hmc
      have hd : (a : Int) = (s0 : Int) := by omega
      have he : (m : Int) = (r0 : Int) := by omega
      go_wp2_with fail
      go_meet
      case rel => exact ⟨by first | rfl | rw [hd], by first | rfl | rw [he], rfl⟩
  case rest =>
    obtain ⟨rfl, rfl, rfl⟩ := hcut
    clear hma hmb1 hsum hhf hcn
    go_wp2_with fail
    clear hpn
    go_loopw [18, 19] (fun x y wr => ∃ s r : Nat, x = .int .i64 s ∧ y = .int .i64 r ∧ s0 ≤ s ∧ s ≤ r ∧ r ≤ r0 ∧ SW encN (w.alloc (.cells #[.func (.func g) #[] lb, .func (.func sf) #[] sb] 105)) blk off d wr ∧ (s = s0 ∨ klt key (rowF d (p - (s - 1))) (rowF d (s - 1)) = false) ∧ (r = r0 ∨ klt key (rowF d (p - r)) (rowF d r) = true)) (fun x y _ => (intOf y).toNat - (intOf x).toNat)
    case atStart => exact ⟨s0, r0, rfl, rfl, Nat.le_refl _, q2, Nat.le_refl _, SW.start HR.out.hH, .inl rfl, .inl rfl⟩
    case round =>
      obtain ⟨s, r, rfl, rfl, hs0, hsr, hr0, hsw, hlo, hhi⟩ := hrel
      have HSW := Lib.hid hsw
      have HLo := Lib.hid hlo
      have HHi := Lib.hid hhi
      have c0 := sw_at hsw w.heap.size 0 (.func (.func g) #[] lb) HBN.out (by simp) (by simp)
      clear hlo hhi
      by_cases hlt : s < r
      · clear hsw
        obtain ⟨T, hT⟩ : ∃ T, T = s + r := ⟨_, rfl⟩
        have hsum : (s : Int) + (r : Int) = (T : Int) := by omega
        have hhf : (T : Int) / 2 = ((T / 2 : Nat) : Int) := by omega
        have hm1 : s ≤ T / 2 := by omega
        have hm2 : T / 2 < r := by omega
        have hTb : T ≤ 2000000 := by omega
        clear hT
        generalize T / 2 = k at *
        have hnn := HN.out
        have hpp := HP.out
        obtain ⟨u, hu⟩ : ∃ u, u = p - k := ⟨_, rfl⟩
        have hpk : (p : Int) - (k : Int) = (u : Int) := by omega
        have hub : u < d.size := by omega
        have HU := Lib.hid hu
        clear hnn hpp hu
        have HC := Lib.hid ((HR.out.on rfl HSW.out).lss u k hub (by omega))
        cases hv : klt key (rowF d u) (rowF d k) with
        | true =>
          rw [hv] at HC
          go_wp2_with (go_at_fn g; refine HC.out.mono ?_; rintro e w' ⟨rfl, q, rfl⟩)
          go_roundw
          case rel => exact ⟨s, k, rfl, rfl, hs0, by omega, by omega, HSW.out.drewN q, HLo.out, .inr (by rw [← HU.out]; exact hv)⟩
          case measure => simp [intOf]; omega
        | false =>
          rw [hv] at HC
          go_wp2_with (go_at_fn g; refine HC.out.mono ?_; rintro e w' ⟨rfl, q, rfl⟩)
          go_roundw
          case rel => exact ⟨k + 1, r, by go_num, rfl, by omega, by omega, hr0, HSW.out.drewN q, .inr (by rw [show k + 1 - 1 = k from rfl, ← HU.out]; exact hv), HHi.out⟩
          case measure => simp [intOf]; omega
      · obtain rfl : s = r := by omega
        have c1 := sw_at hsw w.heap.size 1 (.func (.func sf) #[] sb) HBN.out (by simp) (by simp)
        clear hsw
        have hnn := HN.out
        have hpp := HP.out
        obtain ⟨e, he⟩ : ∃ e, e = n - s := ⟨_, rfl⟩
        have hne : (n : Int) - (s : Int) = (e : Int) := by omega
        have r1 : a ≤ s := by omega
        have r2 : s ≤ m := by omega
        have r3 : m ≤ e := by omega
        have r4 : e ≤ b := by omega
        have r5 : s + (e - m) = c := by omega
        have r6 : s ≤ c := by omega
        have r7 : c ≤ e := by omega
        have hmm := merge_mid HA.out HA2.out r1 r2 r3 r4 (by
          rcases Nat.eq_or_lt_of_le hs0 with hss | hss
          · rcases Q6.out with h' | h' <;> omega
          rcases HLo.out with h | h
          · rcases Q6.out with h' | h' <;> omega
          · rw [show p - (s - 1) = e by omega] at h
            exact .inr (.inr h)) (by
          rcases HHi.out with h | h
          · rcases Q7.out with h' | h' <;> omega
          · rw [show p - s = e - 1 by omega] at h
            exact .inr (.inr h))
        have hpc := asc_left HA.out HA2.out r1 r2 r3 r4
        rw [r5] at hmm hpc
        have HM := Lib.hid hmm
        have HPc := Lib.hid hpc
        have HRot := Lib.hid fun h1 h2 W (hw : SW encN (w.alloc (.cells #[.func (.func g) #[] lb, .func (.func sf) #[] sb] 105)) blk off d W) => rotate_any (.func g) #[] lb sf sb blk off s m e d W HSw.out (HR.out.on rfl hw).hH (HR.out.on rfl hw).hblk h1 h2 (by omega) hsz
        have R5 := Lib.hid r5
        clear hmm hpc hnn hpp he r5 HLo HHi hlt
        by_cases h1 : s < m
        · by_cases h2 : m < e
          · have HC := Lib.hid (HRot.out h1 h2 _ HSW.out)
            go_wp2_with fail
            refine HC.out.mono ?_
            rintro e1 w1 ⟨rfl, d1, hd1, hsw1, hF1⟩
            have hb0 := sw_at hsw1 w.heap.size 0 _ HBN.out (by have := HSW.out.le; simp at this; omega) c0
            have hb1 := sw_at hsw1 w.heap.size 1 _ HBN.out (by have := HSW.out.le; simp at this; omega) c1
            have HSW1 := Lib.hid (sw_trans HSW.out HR.out.hblk hsw1 hd1)
            have HF1 := Lib.hid hF1
            clear hsw1 hF1 c0 c1
            by_cases h3 : a < s
            · by_cases h4 : s < c
              · have HC := Lib.hid (HI.out a s c d1 _ (by omega) h3 h4 (by omega) hd1 (HR.out.on hd1 HSW1.out) (by rw [HF1.out]; exact HPc.out.1) (by rw [HF1.out]; exact HPc.out.2.1))
                go_wp2_with fail
                refine HC.out.mono ?_
                rintro e2 w2 ⟨rfl, d2, hd2, hsw2, hK2, hA2⟩
                have hb2 := sw_at hsw2 w.heap.size 0 _ HBN.out (by have := HSW1.out.le; simp at this; omega) hb0
                have hb3 := sw_at hsw2 w.heap.size 1 _ HBN.out (by have := HSW1.out.le; simp at this; omega) hb1
                have HSW2 := Lib.hid (sw_trans HSW1.out HR.out.hblk hsw2 (by omega))
                rw [HF1.out] at hK2
                have HK2 := Lib.hid hK2
                have HA3 := Lib.hid hA2
                have hd2' : d2.size = d.size := by omega
                clear hsw2 hK2 hA2 hb0 hb1
                have hP3 : Asc key (rowF d2) c e := HPc.out.2.2.1.eq fun j g1 _ => HK2.out.out j (.inr g1)
                have hP4 : Asc key (rowF d2) e b := HPc.out.2.2.2.eq fun j g1 _ => HK2.out.out j (.inr (by omega))
                have HP3 := Lib.hid hP3
                have HP4 := Lib.hid hP4
                clear hP3 hP4
                by_cases h5 : c < e
                · by_cases h6 : e < b
                  · have HC := Lib.hid (HI.out c e b d2 _ (by omega) h5 h6 (by omega) hd2' (HR.out.on hd2' HSW2.out) HP3.out HP4.out)
                    go_wp2_with fail
                    refine HC.out.mono ?_
                    rintro e3 w3 ⟨rfl, d3, hd3, hsw3, hK3, hA3⟩
                    have HSW3 := Lib.hid (sw_trans HSW2.out HR.out.hblk hsw3 (by omega))
                    have HDn := Lib.hid (merge_done (by omega) (by omega) HM.out.1 HM.out.2 HK2.out HA3.out hK3 hA3)
                    clear hsw3 hK3 hA3
                    go_wp2_with fail
                    go_end0
                    exact ⟨rfl, d3, by omega, sw_alloc HSW3.out HB.out, HDn.out.1, HDn.out.2⟩
                  · have g6 : decide (e < b) = false := by simpa using h6
                    have HDn := Lib.hid (merge_done (by omega) (by omega) HM.out.1 HM.out.2 HK2.out HA3.out (Kept.refl _ _ _ _) (asc_or r7 r4 (by omega) HP3.out HP4.out))
                    go_wp2_with fail
                    go_end0
                    exact ⟨rfl, d2, hd2', sw_alloc HSW2.out HB.out, HDn.out.1, HDn.out.2⟩
                · have g5 : decide (c < e) = false := by simpa using h5
                  have HDn := Lib.hid (merge_done (by omega) (by omega) HM.out.1 HM.out.2 HK2.out HA3.out (Kept.refl _ _ _ _) (asc_or r7 r4 (by omega) HP3.out HP4.out))
                  go_wp2_with fail
                  go_end0
                  exact ⟨rfl, d2, hd2', sw_alloc HSW2.out HB.out, HDn.out.1, HDn.out.2⟩
              · have g4 : decide (s < c) = false := by simpa using h4
                have hd2' := hd1
                have HSW2 := HSW1
                have HK2 : Hid (Kept key (rotF (rowF d) s m e) (rowF d1) a c) := Lib.hid (by rw [HF1.out]; exact Kept.refl _ _ _ _)
                have HA3 := Lib.hid (show Asc key (rowF d1) a c by rw [HF1.out]; exact asc_or r1 r6 (by omega) HPc.out.1 HPc.out.2.1)
                have hb2 := hb0
                have hb3 := hb1
                clear hb0 hb1
                have hP3 : Asc key (rowF d1) c e := HPc.out.2.2.1.eq fun j g1 _ => HK2.out.out j (.inr g1)
                have hP4 : Asc key (rowF d1) e b := HPc.out.2.2.2.eq fun j g1 _ => HK2.out.out j (.inr (by omega))
                have HP3 := Lib.hid hP3
                have HP4 := Lib.hid hP4
                clear hP3 hP4
                by_cases h5 : c < e
                · by_cases h6 : e < b
                  · have HC := Lib.hid (HI.out c e b d1 _ (by omega) h5 h6 (by omega) hd2' (HR.out.on hd2' HSW2.out) HP3.out HP4.out)
                    go_wp2_with fail
                    refine HC.out.mono ?_
                    rintro e3 w3 ⟨rfl, d3, hd3, hsw3, hK3, hA3⟩
                    have HSW3 := Lib.hid (sw_trans HSW2.out HR.out.hblk hsw3 (by omega))
                    have HDn := Lib.hid (merge_done (by omega) (by omega) HM.out.1 HM.out.2 HK2.out HA3.out hK3 hA3)
                    clear hsw3 hK3 hA3
                    go_wp2_with fail
                    go_end0
                    exact ⟨rfl, d3, by omega, sw_alloc HSW3.out HB.out, HDn.out.1, HDn.out.2⟩
                  · have g6 : decide (e < b) = false := by simpa using h6
                    have HDn := Lib.hid (merge_done (by omega) (by omega) HM.out.1 HM.out.2 HK2.out HA3.out (Kept.refl _ _ _ _) (asc_or r7 r4 (by omega) HP3.out HP4.out))
                    go_wp2_with fail
                    go_end0
                    exact ⟨rfl, d1, hd2', sw_alloc HSW2.out HB.out, HDn.out.1, HDn.out.2⟩
                · have g5 : decide (c < e) = false := by simpa using h5
                  have HDn := Lib.hid (merge_done (by omega) (by omega) HM.out.1 HM.out.2 HK2.out HA3.out (Kept.refl _ _ _ _) (asc_or r7 r4 (by omega) HP3.out HP4.out))
                  go_wp2_with fail
                  go_end0
                  exact ⟨rfl, d1, hd2', sw_alloc HSW2.out HB.out, HDn.out.1, HDn.out.2⟩
            · have g3 : decide (a < s) = false := by simpa using h3
              have hd2' := hd1
              have HSW2 := HSW1
              have HK2 : Hid (Kept key (rotF (rowF d) s m e) (rowF d1) a c) := Lib.hid (by rw [HF1.out]; exact Kept.refl _ _ _ _)
              have HA3 := Lib.hid (show Asc key (rowF d1) a c by rw [HF1.out]; exact asc_or r1 r6 (by omega) HPc.out.1 HPc.out.2.1)
              have hb2 := hb0
              have hb3 := hb1
              clear hb0 hb1
              have hP3 : Asc key (rowF d1) c e := HPc.out.2.2.1.eq fun j g1 _ => HK2.out.out j (.inr g1)
              have hP4 : Asc key (rowF d1) e b := HPc.out.2.2.2.eq fun j g1 _ => HK2.out.out j (.inr (by omega))
              have HP3 := Lib.hid hP3
              have HP4 := Lib.hid hP4
              clear hP3 hP4
              by_cases h5 : c < e
              · by_cases h6 : e < b
                · have HC := Lib.hid (HI.out c e b d1 _ (by omega) h5 h6 (by omega) hd2' (HR.out.on hd2' HSW2.out) HP3.out HP4.out)
                  go_wp2_with fail
                  refine HC.out.mono ?_
                  rintro e3 w3 ⟨rfl, d3, hd3, hsw3, hK3, hA3⟩
                  have HSW3 := Lib.hid (sw_trans HSW2.out HR.out.hblk hsw3 (by omega))
                  have HDn := Lib.hid (merge_done (by omega) (by omega) HM.out.1 HM.out.2 HK2.out HA3.out hK3 hA3)
                  clear hsw3 hK3 hA3
                  go_wp2_with fail
                  go_end0
                  exact ⟨rfl, d3, by omega, sw_alloc HSW3.out HB.out, HDn.out.1, HDn.out.2⟩
                · have g6 : decide (e < b) = false := by simpa using h6
                  have HDn := Lib.hid (merge_done (by omega) (by omega) HM.out.1 HM.out.2 HK2.out HA3.out (Kept.refl _ _ _ _) (asc_or r7 r4 (by omega) HP3.out HP4.out))
                  go_wp2_with fail
                  go_end0
                  exact ⟨rfl, d1, hd2', sw_alloc HSW2.out HB.out, HDn.out.1, HDn.out.2⟩
              · have g5 : decide (c < e) = false := by simpa using h5
                have HDn := Lib.hid (merge_done (by omega) (by omega) HM.out.1 HM.out.2 HK2.out HA3.out (Kept.refl _ _ _ _) (asc_or r7 r4 (by omega) HP3.out HP4.out))
                go_wp2_with fail
                go_end0
                exact ⟨rfl, d1, hd2', sw_alloc HSW2.out HB.out, HDn.out.1, HDn.out.2⟩
          · have g2 : decide (m < e) = false := by simpa using h2
            obtain ⟨d1, hde⟩ : ∃ d1 : Array Nat, d1 = d := ⟨d, rfl⟩
            have hd1 : d1.size = d.size := by rw [hde]
            have HSW1 : Hid (SW encN (w.alloc (.cells #[.func (.func g) #[] lb, .func (.func sf) #[] sb] 105)) blk off d1 wr) := Lib.hid (by rw [hde]; exact HSW.out)
            have HF1 : Hid (rowF d1 = rotF (rowF d) s m e) := Lib.hid (by rw [hde, show e = m by omega, rotF_none'])
            have hb0 := c0
            have hb1 := c1
            clear c0 c1 hde
            by_cases h3 : a < s
            · by_cases h4 : s < c
              · have HC := Lib.hid (HI.out a s c d1 _ (by omega) h3 h4 (by omega) hd1 (HR.out.on hd1 HSW1.out) (by rw [HF1.out]; exact HPc.out.1) (by rw [HF1.out]; exact HPc.out.2.1))
                go_wp2_with fail
                refine HC.out.mono ?_
                rintro e2 w2 ⟨rfl, d2, hd2, hsw2, hK2, hA2⟩
                have hb2 := sw_at hsw2 w.heap.size 0 _ HBN.out (by have := HSW1.out.le; simp at this; omega) hb0
                have hb3 := sw_at hsw2 w.heap.size 1 _ HBN.out (by have := HSW1.out.le; simp at this; omega) hb1
                have HSW2 := Lib.hid (sw_trans HSW1.out HR.out.hblk hsw2 (by omega))
                rw [HF1.out] at hK2
                have HK2 := Lib.hid hK2
                have HA3 := Lib.hid hA2
                have hd2' : d2.size = d.size := by omega
                clear hsw2 hK2 hA2 hb0 hb1
                have hP3 : Asc key (rowF d2) c e := HPc.out.2.2.1.eq fun j g1 _ => HK2.out.out j (.inr g1)
                have hP4 : Asc key (rowF d2) e b := HPc.out.2.2.2.eq fun j g1 _ => HK2.out.out j (.inr (by omega))
                have HP3 := Lib.hid hP3
                have HP4 := Lib.hid hP4
                clear hP3 hP4
                by_cases h5 : c < e
                · by_cases h6 : e < b
                  · have HC := Lib.hid (HI.out c e b d2 _ (by omega) h5 h6 (by omega) hd2' (HR.out.on hd2' HSW2.out) HP3.out HP4.out)
                    go_wp2_with fail
                    refine HC.out.mono ?_
                    rintro e3 w3 ⟨rfl, d3, hd3, hsw3, hK3, hA3⟩
                    have HSW3 := Lib.hid (sw_trans HSW2.out HR.out.hblk hsw3 (by omega))
                    have HDn := Lib.hid (merge_done (by omega) (by omega) HM.out.1 HM.out.2 HK2.out HA3.out hK3 hA3)
                    clear hsw3 hK3 hA3
                    go_wp2_with fail
                    go_end0
                    exact ⟨rfl, d3, by omega, sw_alloc HSW3.out HB.out, HDn.out.1, HDn.out.2⟩
                  · have g6 : decide (e < b) = false := by simpa using h6
                    have HDn := Lib.hid (merge_done (by omega) (by omega) HM.out.1 HM.out.2 HK2.out HA3.out (Kept.refl _ _ _ _) (asc_or r7 r4 (by omega) HP3.out HP4.out))
                    go_wp2_with fail
                    go_end0
                    exact ⟨rfl, d2, hd2', sw_alloc HSW2.out HB.out, HDn.out.1, HDn.out.2⟩
                · have g5 : decide (c < e) = false := by simpa using h5
                  have HDn := Lib.hid (merge_done (by omega) (by omega) HM.out.1 HM.out.2 HK2.out HA3.out (Kept.refl _ _ _ _) (asc_or r7 r4 (by omega) HP3.out HP4.out))
                  go_wp2_with fail
                  go_end0
                  exact ⟨rfl, d2, hd2', sw_alloc HSW2.out HB.out, HDn.out.1, HDn.out.2⟩
              · have g4 : decide (s < c) = false := by simpa using h4
                have hd2' := hd1
                have HSW2 := HSW1
                have HK2 : Hid (Kept key (rotF (rowF d) s m e) (rowF d1) a c) := Lib.hid (by rw [HF1.out]; exact Kept.refl _ _ _ _)
                have HA3 := Lib.hid (show Asc key (rowF d1) a c by rw [HF1.out]; exact asc_or r1 r6 (by omega) HPc.out.1 HPc.out.2.1)
                have hb2 := hb0
                have hb3 := hb1
                clear hb0 hb1
                have hP3 : Asc key (rowF d1) c e := HPc.out.2.2.1.eq fun j g1 _ => HK2.out.out j (.inr g1)
                have hP4 : Asc key (rowF d1) e b := HPc.out.2.2.2.eq fun j g1 _ => HK2.out.out j (.inr (by omega))
                have HP3 := Lib.hid hP3
                have HP4 := Lib.hid hP4
                clear hP3 hP4
                by_cases h5 : c < e
                · by_cases h6 : e < b
                  · have HC := Lib.hid (HI.out c e b d1 _ (by omega) h5 h6 (by omega) hd2' (HR.out.on hd2' HSW2.out) HP3.out HP4.out)
                    go_wp2_with fail
                    refine HC.out.mono ?_
                    rintro e3 w3 ⟨rfl, d3, hd3, hsw3, hK3, hA3⟩
                    have HSW3 := Lib.hid (sw_trans HSW2.out HR.out.hblk hsw3 (by omega))
                    have HDn := Lib.hid (merge_done (by omega) (by omega) HM.out.1 HM.out.2 HK2.out HA3.out hK3 hA3)
                    clear hsw3 hK3 hA3
                    go_wp2_with fail
                    go_end0
                    exact ⟨rfl, d3, by omega, sw_alloc HSW3.out HB.out, HDn.out.1, HDn.out.2⟩
                  · have g6 : decide (e < b) = false := by simpa using h6
                    have HDn := Lib.hid (merge_done (by omega) (by omega) HM.out.1 HM.out.2 HK2.out HA3.out (Kept.refl _ _ _ _) (asc_or r7 r4 (by omega) HP3.out HP4.out))
                    go_wp2_with fail
                    go_end0
                    exact ⟨rfl, d1, hd2', sw_alloc HSW2.out HB.out, HDn.out.1, HDn.out.2⟩
                · have g5 : decide (c < e) = false := by simpa using h5
                  have HDn := Lib.hid (merge_done (by omega) (by omega) HM.out.1 HM.out.2 HK2.out HA3.out (Kept.refl _ _ _ _) (asc_or r7 r4 (by omega) HP3.out HP4.out))
                  go_wp2_with fail
                  go_end0
                  exact ⟨rfl, d1, hd2', sw_alloc HSW2.out HB.out, HDn.out.1, HDn.out.2⟩
            · have g3 : decide (a < s) = false := by simpa using h3
              have hd2' := hd1
              have HSW2 := HSW1
              have HK2 : Hid (Kept key (rotF (rowF d) s m e) (rowF d1) a c) := Lib.hid (by rw [HF1.out]; exact Kept.refl _ _ _ _)
              have HA3 := Lib.hid (show Asc key (rowF d1) a c by rw [HF1.out]; exact asc_or r1 r6 (by omega) HPc.out.1 HPc.out.2.1)
              have hb2 := hb0
              have hb3 := hb1
              clear hb0 hb1
              have hP3 : Asc key (rowF d1) c e := HPc.out.2.2.1.eq fun j g1 _ => HK2.out.out j (.inr g1)
              have hP4 : Asc key (rowF d1) e b := HPc.out.2.2.2.eq fun j g1 _ => HK2.out.out j (.inr (by omega))
              have HP3 := Lib.hid hP3
              have HP4 := Lib.hid hP4
              clear hP3 hP4
              by_cases h5 : c < e
              · by_cases h6 : e < b
                · have HC := Lib.hid (HI.out c e b d1 _ (by omega) h5 h6 (by omega) hd2' (HR.out.on hd2' HSW2.out) HP3.out HP4.out)
                  go_wp2_with fail
                  refine HC.out.mono ?_
                  rintro e3 w3 ⟨rfl, d3, hd3, hsw3, hK3, hA3⟩
                  have HSW3 := Lib.hid (sw_trans HSW2.out HR.out.hblk hsw3 (by omega))
                  have HDn := Lib.hid (merge_done (by omega) (by omega) HM.out.1 HM.out.2 HK2.out HA3.out hK3 hA3)
                  clear hsw3 hK3 hA3
                  go_wp2_with fail
                  go_end0
                  exact ⟨rfl, d3, by omega, sw_alloc HSW3.out HB.out, HDn.out.1, HDn.out.2⟩
                · have g6 : decide (e < b) = false := by simpa using h6
                  have HDn := Lib.hid (merge_done (by omega) (by omega) HM.out.1 HM.out.2 HK2.out HA3.out (Kept.refl _ _ _ _) (asc_or r7 r4 (by omega) HP3.out HP4.out))
                  go_wp2_with fail
                  go_end0
                  exact ⟨rfl, d1, hd2', sw_alloc HSW2.out HB.out, HDn.out.1, HDn.out.2⟩
              · have g5 : decide (c < e) = false := by simpa using h5
                have HDn := Lib.hid (merge_done (by omega) (by omega) HM.out.1 HM.out.2 HK2.out HA3.out (Kept.refl _ _ _ _) (asc_or r7 r4 (by omega) HP3.out HP4.out))
                go_wp2_with fail
                go_end0
                exact ⟨rfl, d1, hd2', sw_alloc HSW2.out HB.out, HDn.out.1, HDn.out.2⟩
        · have g1 : decide (s < m) = false := by simpa using h1
          obtain ⟨d1, hde⟩ : ∃ d1 : Array Nat, d1 = d := ⟨d, rfl⟩
          have hd1 : d1.size = d.size := by rw [hde]
          have HSW1 : Hid (SW encN (w.alloc (.cells #[.func (.func g) #[] lb, .func (.func sf) #[] sb] 105)) blk off d1 wr) := Lib.hid (by rw [hde]; exact HSW.out)
          have HF1 : Hid (rowF d1 = rotF (rowF d) s m e) := Lib.hid (by rw [hde, show s = m by omega, rotF_none])
          have hb0 := c0
          have hb1 := c1
          clear c0 c1 hde
          by_cases h3 : a < s
          · by_cases h4 : s < c
            · have HC := Lib.hid (HI.out a s c d1 _ (by omega) h3 h4 (by omega) hd1 (HR.out.on hd1 HSW1.out) (by rw [HF1.out]; exact HPc.out.1) (by rw [HF1.out]; exact HPc.out.2.1))
              go_wp2_with fail
              refine HC.out.mono ?_
              rintro e2 w2 ⟨rfl, d2, hd2, hsw2, hK2, hA2⟩
              have hb2 := sw_at hsw2 w.heap.size 0 _ HBN.out (by have := HSW1.out.le; simp at this; omega) hb0
              have hb3 := sw_at hsw2 w.heap.size 1 _ HBN.out (by have := HSW1.out.le; simp at this; omega) hb1
              have HSW2 := Lib.hid (sw_trans HSW1.out HR.out.hblk hsw2 (by omega))
              rw [HF1.out] at hK2
              have HK2 := Lib.hid hK2
              have HA3 := Lib.hid hA2
              have hd2' : d2.size = d.size := by omega
              clear hsw2 hK2 hA2 hb0 hb1
              have hP3 : Asc key (rowF d2) c e := HPc.out.2.2.1.eq fun j g1 _ => HK2.out.out j (.inr g1)
              have hP4 : Asc key (rowF d2) e b := HPc.out.2.2.2.eq fun j g1 _ => HK2.out.out j (.inr (by omega))
              have HP3 := Lib.hid hP3
              have HP4 := Lib.hid hP4
              clear hP3 hP4
              by_cases h5 : c < e
              · by_cases h6 : e < b
                · have HC := Lib.hid (HI.out c e b d2 _ (by omega) h5 h6 (by omega) hd2' (HR.out.on hd2' HSW2.out) HP3.out HP4.out)
                  go_wp2_with fail
                  refine HC.out.mono ?_
                  rintro e3 w3 ⟨rfl, d3, hd3, hsw3, hK3, hA3⟩
                  have HSW3 := Lib.hid (sw_trans HSW2.out HR.out.hblk hsw3 (by omega))
                  have HDn := Lib.hid (merge_done (by omega) (by omega) HM.out.1 HM.out.2 HK2.out HA3.out hK3 hA3)
                  clear hsw3 hK3 hA3
                  go_wp2_with fail
                  go_end0
                  exact ⟨rfl, d3, by omega, sw_alloc HSW3.out HB.out, HDn.out.1, HDn.out.2⟩
                · have g6 : decide (e < b) = false := by simpa using h6
                  have HDn := Lib.hid (merge_done (by omega) (by omega) HM.out.1 HM.out.2 HK2.out HA3.out (Kept.refl _ _ _ _) (asc_or r7 r4 (by omega) HP3.out HP4.out))
                  go_wp2_with fail
                  go_end0
                  exact ⟨rfl, d2, hd2', sw_alloc HSW2.out HB.out, HDn.out.1, HDn.out.2⟩
              · have g5 : decide (c < e) = false := by simpa using h5
                have HDn := Lib.hid (merge_done (by omega) (by omega) HM.out.1 HM.out.2 HK2.out HA3.out (Kept.refl _ _ _ _) (asc_or r7 r4 (by omega) HP3.out HP4.out))
                go_wp2_with fail
                go_end0
                exact ⟨rfl, d2, hd2', sw_alloc HSW2.out HB.out, HDn.out.1, HDn.out.2⟩
            · have g4 : decide (s < c) = false := by simpa using h4
              have hd2' := hd1
              have HSW2 := HSW1
              have HK2 : Hid (Kept key (rotF (rowF d) s m e) (rowF d1) a c) := Lib.hid (by rw [HF1.out]; exact Kept.refl _ _ _ _)
              have HA3 := Lib.hid (show Asc key (rowF d1) a c by rw [HF1.out]; exact asc_or r1 r6 (by omega) HPc.out.1 HPc.out.2.1)
              have hb2 := hb0
              have hb3 := hb1
              clear hb0 hb1
              have hP3 : Asc key (rowF d1) c e := HPc.out.2.2.1.eq fun j g1 _ => HK2.out.out j (.inr g1)
              have hP4 : Asc key (rowF d1) e b := HPc.out.2.2.2.eq fun j g1 _ => HK2.out.out j (.inr (by omega))
              have HP3 := Lib.hid hP3
              have HP4 := Lib.hid hP4
              clear hP3 hP4
              by_cases h5 : c < e
              · by_cases h6 : e < b
                · have HC := Lib.hid (HI.out c e b d1 _ (by omega) h5 h6 (by omega) hd2' (HR.out.on hd2' HSW2.out) HP3.out HP4.out)
                  go_wp2_with fail
                  refine HC.out.mono ?_
                  rintro e3 w3 ⟨rfl, d3, hd3, hsw3, hK3, hA3⟩
                  have HSW3 := Lib.hid (sw_trans HSW2.out HR.out.hblk hsw3 (by omega))
                  have HDn := Lib.hid (merge_done (by omega) (by omega) HM.out.1 HM.out.2 HK2.out HA3.out hK3 hA3)
                  clear hsw3 hK3 hA3
                  go_wp2_with fail
                  go_end0
                  exact ⟨rfl, d3, by omega, sw_alloc HSW3.out HB.out, HDn.out.1, HDn.out.2⟩
                · have g6 : decide (e < b) = false := by simpa using h6
                  have HDn := Lib.hid (merge_done (by omega) (by omega) HM.out.1 HM.out.2 HK2.out HA3.out (Kept.refl _ _ _ _) (asc_or r7 r4 (by omega) HP3.out HP4.out))
                  go_wp2_with fail
                  go_end0
                  exact ⟨rfl, d1, hd2', sw_alloc HSW2.out HB.out, HDn.out.1, HDn.out.2⟩
              · have g5 : decide (c < e) = false := by simpa using h5
                have HDn := Lib.hid (merge_done (by omega) (by omega) HM.out.1 HM.out.2 HK2.out HA3.out (Kept.refl _ _ _ _) (asc_or r7 r4 (by omega) HP3.out HP4.out))
                go_wp2_with fail
                go_end0
                exact ⟨rfl, d1, hd2', sw_alloc HSW2.out HB.out, HDn.out.1, HDn.out.2⟩
          · have g3 : decide (a < s) = false := by simpa using h3
            have hd2' := hd1
            have HSW2 := HSW1
            have HK2 : Hid (Kept key (rotF (rowF d) s m e) (rowF d1) a c) := Lib.hid (by rw [HF1.out]; exact Kept.refl _ _ _ _)
            have HA3 := Lib.hid (show Asc key (rowF d1) a c by rw [HF1.out]; exact asc_or r1 r6 (by omega) HPc.out.1 HPc.out.2.1)
            have hb2 := hb0
            have hb3 := hb1
            clear hb0 hb1
            have hP3 : Asc key (rowF d1) c e := HPc.out.2.2.1.eq fun j g1 _ => HK2.out.out j (.inr g1)
            have hP4 : Asc key (rowF d1) e b := HPc.out.2.2.2.eq fun j g1 _ => HK2.out.out j (.inr (by omega))
            have HP3 := Lib.hid hP3
            have HP4 := Lib.hid hP4
            clear hP3 hP4
            by_cases h5 : c < e
            · by_cases h6 : e < b
              · have HC := Lib.hid (HI.out c e b d1 _ (by omega) h5 h6 (by omega) hd2' (HR.out.on hd2' HSW2.out) HP3.out HP4.out)
                go_wp2_with fail
                refine HC.out.mono ?_
                rintro e3 w3 ⟨rfl, d3, hd3, hsw3, hK3, hA3⟩
                have HSW3 := Lib.hid (sw_trans HSW2.out HR.out.hblk hsw3 (by omega))
                have HDn := Lib.hid (merge_done (by omega) (by omega) HM.out.1 HM.out.2 HK2.out HA3.out hK3 hA3)
                clear hsw3 hK3 hA3
                go_wp2_with fail
                go_end0
                exact ⟨rfl, d3, by omega, sw_alloc HSW3.out HB.out, HDn.out.1, HDn.out.2⟩
              · have g6 : decide (e < b) = false := by simpa using h6
                have HDn := Lib.hid (merge_done (by omega) (by omega) HM.out.1 HM.out.2 HK2.out HA3.out (Kept.refl _ _ _ _) (asc_or r7 r4 (by omega) HP3.out HP4.out))
                go_wp2_with fail
                go_end0
                exact ⟨rfl, d1, hd2', sw_alloc HSW2.out HB.out, HDn.out.1, HDn.out.2⟩
            · have g5 : decide (c < e) = false := by simpa using h5
              have HDn := Lib.hid (merge_done (by omega) (by omega) HM.out.1 HM.out.2 HK2.out HA3.out (Kept.refl _ _ _ _) (asc_or r7 r4 (by omega) HP3.out HP4.out))
              go_wp2_with fail
              go_end0
              exact ⟨rfl, d1, hd2', sw_alloc HSW2.out HB.out, HDn.out.1, HDn.out.2⟩
end Go.Proofs.Ytjgibbccjijpaaa
