/-
  What sort's symMerge_func does to a row whose two parts are sorted: the turn about the middle, and the whole. What sort's symMerge_func, insertionSort_func and stable_func do to a row that are sorted by whatever order. No condition but what each theorem names.
-/
import Derived.Deep.Cut
import Derived.Test.YtpkclmfadlkbeaaDoorJ13
namespace Go.Proofs.YtpkclmfadlkbeaaDoor
open Go.Shelf Go.RowKit Go.Lib Go.Sort
variable {α : Type} [Inhabited α] {enc : α → Value}

/-- What is known of shorter ranges. -/
def SmIH (g : Nat) (lb : Array Value) (sf : Nat) (sb : Array Value) (enc : α → Value) (lt : α → α → Bool) (blk off size L : Nat) : Prop :=
  ∀ (a m b : Nat) (d : Array α) (w : World), b - a < L → a < m → m < b → b ≤ d.size → d.size = size → Rdy g lb enc lt blk off d w → Asc lt (rowF d) a m → Asc lt (rowF d) m b →
    Calls Tryd.prog 52 #[.agg #[.func (.func g) #[] lb, .func (.func sf) #[] sb], .int .i64 a, .int .i64 m, .int .i64 b] w (Mrg enc lt blk off d a b w)
set_option maxHeartbeats 2000000 in
set_option maxRecDepth 100000 in
theorem sm_mid (g : Nat) (lb : Array Value) (sf : Nat) (sb : Array Value) (lt : α → α → Bool) (blk off a m b : Nat) (d : Array α) (w : World)
    (eg : ∀ args w, (callFunc g args).run Tryd.prog w = .ok (.enter g args) w) (hO : SWO lt) (hswap : SwapSwaps Tryd.prog sf sb enc blk off d.size) (hR : Rdy g lb enc lt blk off d w) (ham : a + 1 < m) (hmb : m + 1 < b) (hb : b ≤ d.size) (hsz : d.size ≤ 1000000) (hs : Asc lt (rowF d) a m) (hs2 : Asc lt (rowF d) m b) (hih : SmIH g lb sf sb enc lt blk off d.size (b - a)) :
    Calls Tryd.prog 52 #[.agg #[.func (.func g) #[] lb, .func (.func sf) #[] sb], .int .i64 a, .int .i64 m, .int .i64 b] w (Mrg enc lt blk off d a b w) := by
  have HO := Lib.hid hO
  have HR := Lib.hid (hR.new (.cells #[.func (.func g) #[] lb, .func (.func sf) #[] sb] 70))
  have HB := Lib.hid hR.hblk
  have HBN := Lib.hid (show w.heap.size ≠ blk by have := hR.hblk; omega)
  have HSw := Lib.hid hswap
  have HA := Lib.hid hs
  have HA2 := Lib.hid hs2
  have HI := Lib.hid hih
  clear hO hR hswap hs hs2 hih
  have hma : ((m : Int) - (a : Int) == 1) = false := by simp; omega
  have hmb1 : ((b : Int) - (m : Int) == 1) = false := by simp; omega
  obtain ⟨S, hS⟩ : ∃ S, S = a + b := ⟨_, rfl⟩
  have hsum : (a : Int) + (b : Int) = (S : Int) := by omega
  have hhf : (S : Int) / 2 = ((S / 2 : Nat) : Int) := by omega
  have hc1 : 2 * (S / 2) ≤ a + b := by omega
  have hc2 : a + b ≤ 2 * (S / 2) + 1 := by omega
  have hsb : S ≤ 2000000 := by omega
  clear hS
  generalize S / 2 = c at *
  obtain ⟨n, hn⟩ : ∃ n, n = c + m := ⟨_, rfl⟩
  have hcn : (c : Int) + (m : Int) = (n : Int) := by omega
  obtain ⟨p, hp⟩ : ∃ p, p + 1 = n := ⟨n - 1, by omega⟩
  have hpn : (n : Int) - 1 = (p : Int) := by omega
  obtain ⟨s0, r0, hsr1, hsr2⟩ : ∃ s0 r0, (c < m → s0 + b = n ∧ r0 = c) ∧ (¬ c < m → s0 = a ∧ r0 = m) := by
    by_cases h : c < m
    · exact ⟨n - b, c, fun _ => ⟨by omega, rfl⟩, fun h' => absurd h h'⟩
    · exact ⟨a, m, fun h' => absurd h' h, fun _ => ⟨rfl, rfl⟩⟩
  have hac : a + 2 ≤ c := by omega
  have hcb : c + 2 ≤ b := by omega
  have HSR1 := Lib.hid hsr1
  have HSR2 := Lib.hid hsr2
  have q1 : a ≤ s0 := by omega
  have q2 : s0 ≤ r0 := by omega
  have q3 : r0 ≤ m := by omega
  have q4 : r0 ≤ c := by omega
  have q5 : n ≤ s0 + b := by omega
  have Q6 : Hid (s0 = a ∨ s0 + b = n) := Lib.hid (by omega)
  have Q7 : Hid (r0 = m ∨ r0 = c) := Lib.hid (by omega)
  have HN := Lib.hid hn
  have HP := Lib.hid hp
  have hnb : n ≤ 2000000 := by omega
  have hpb : p < n := by omega
  clear hsr1 hsr2 hn hp
  go_enter Tryd.func52, Tryd.ntmps52
  go_upto_if 106 with fail
  go_cut [18, 19] from 107 (fun x y wx => x = .int .i64 s0 ∧ y = .int .i64 r0 ∧ wx = (w.alloc (.cells #[.func (.func g) #[] lb, .func (.func sf) #[] sb] 70)))
  case first =>
    by_cases hmc : c < m
    · have h := HSR1.out hmc
      have hd : (n : Int) - (b : Int) = (s0 : Int) := by omega
      have he : (c : Int) = (r0 : Int) := by omega
      go_wp2_with fail
      go_meet
      case rel => exact ⟨rfl, by first | rfl | rw [he], rfl⟩
    · have h := HSR2.out hmc
      have hd : (a : Int) = (s0 : Int) := by omega
      have he : (m : Int) = (r0 : Int) := by omega
      go_wp2_with fail
      go_meet
      case rel => exact ⟨by first | rfl | rw [hd], by first | rfl | rw [he], rfl⟩
  case rest =>
    obtain ⟨rfl, rfl, rfl⟩ := hcut
    clear hma hmb1 hsum hhf hcn
    go_wp2_with fail
    clear hpn
    go_loopw [18, 19] (fun x y wr => ∃ s r : Nat, x = .int .i64 s ∧ y = .int .i64 r ∧ s0 ≤ s ∧ s ≤ r ∧ r ≤ r0 ∧ SW enc (w.alloc (.cells #[.func (.func g) #[] lb, .func (.func sf) #[] sb] 70)) blk off d wr ∧ (s = s0 ∨ lt (rowF d (p - (s - 1))) (rowF d (s - 1)) = false) ∧ (r = r0 ∨ lt (rowF d (p - r)) (rowF d r) = true)) (fun x y _ => (intOf y).toNat - (intOf x).toNat)
    case atStart => exact ⟨s0, r0, rfl, rfl, Nat.le_refl _, q2, Nat.le_refl _, SW.start HR.out.hH, .inl rfl, .inl rfl⟩
    case round =>
      obtain ⟨s, r, rfl, rfl, hs0, hsr, hr0, hsw, hlo, hhi⟩ := hrel
      have HSW := Lib.hid hsw
      have HLo := Lib.hid hlo
      have HHi := Lib.hid hhi
      have c0 := sw_at hsw w.heap.size 0 (.func (.func g) #[] lb) HBN.out (by simp) (by simp)
      clear hlo hhi
      by_cases hlt : s < r
      · clear hsw
        obtain ⟨T, hT⟩ : ∃ T, T = s + r := ⟨_, rfl⟩
        have hsum : (s : Int) + (r : Int) = (T : Int) := by omega
        have hhf : (T : Int) / 2 = ((T / 2 : Nat) : Int) := by omega
        have hm1 : s ≤ T / 2 := by omega
        have hm2 : T / 2 < r := by omega
        have hTb : T ≤ 2000000 := by omega
        clear hT
        generalize T / 2 = k at *
        have hnn := HN.out
        have hpp := HP.out
        obtain ⟨u, hu⟩ : ∃ u, u = p - k := ⟨_, rfl⟩
        have hpk : (p : Int) - (k : Int) = (u : Int) := by omega
        have hub : u < d.size := by omega
        have HU := Lib.hid hu
        clear hnn hpp hu
        have HC := Lib.hid ((HR.out.on rfl HSW.out).lss u k hub (by omega))
        cases hv : lt (rowF d u) (rowF d k) with
        | true =>
          rw [hv] at HC
          go_wp2_with (go_at_fn g; refine HC.out.mono ?_; rintro e w' ⟨rfl, hsx⟩; have HSX := Lib.hid (sw_trans HSW.out HR.out.hblk hsx rfl); clear hsx)
          go_roundw
          case rel => exact ⟨s, k, rfl, rfl, hs0, by omega, by omega, HSX.out, HLo.out, .inr (by rw [← HU.out]; exact hv)⟩
          case measure => simp [intOf]; omega
        | false =>
          rw [hv] at HC
          go_wp2_with (go_at_fn g; refine HC.out.mono ?_; rintro e w' ⟨rfl, hsx⟩; have HSX := Lib.hid (sw_trans HSW.out HR.out.hblk hsx rfl); clear hsx)
          go_roundw
          case rel => exact ⟨k + 1, r, by go_num, rfl, by omega, by omega, hr0, HSX.out, .inr (by rw [show k + 1 - 1 = k from rfl, ← HU.out]; exact hv), HHi.out⟩
          case measure => simp [intOf]; omega
      · obtain rfl : s = r := by omega
        have c1 := sw_at hsw w.heap.size 1 (.func (.func sf) #[] sb) HBN.out (by simp) (by simp)
        clear hsw
        have hnn := HN.out
        have hpp := HP.out
        obtain ⟨e, he⟩ : ∃ e, e = n - s := ⟨_, rfl⟩
        have hne : (n : Int) - (s : Int) = (e : Int) := by omega
        have r1 : a ≤ s := by omega
        have r2 : s ≤ m := by omega
        have r3 : m ≤ e := by omega
        have r4 : e ≤ b := by omega
        have r5 : s + (e - m) = c := by omega
        have r6 : s ≤ c := by omega
        have r7 : c ≤ e := by omega
        have hmm := merge_mid HO.out HA.out HA2.out r1 r2 r3 r4 (by
          rcases Nat.eq_or_lt_of_le hs0 with hss | hss
          · rcases Q6.out with h' | h' <;> omega
          rcases HLo.out with h | h
          · rcases Q6.out with h' | h' <;> omega
          · rw [show p - (s - 1) = e by omega] at h
            exact .inr (.inr h)) (by
          rcases HHi.out with h | h
          · rcases Q7.out with h' | h' <;> omega
          · rw [show p - s = e - 1 by omega] at h
            exact .inr (.inr h))
        have hpc := asc_left HA.out HA2.out r1 r2 r3 r4
        rw [r5] at hmm hpc
        have HM := Lib.hid hmm
        have HPc := Lib.hid hpc
        have HRot := Lib.hid fun h1 h2 W (hw : SW enc (w.alloc (.cells #[.func (.func g) #[] lb, .func (.func sf) #[] sb] 70)) blk off d W) => rotate_any (.func g) #[] lb sf sb blk off s m e d W HSw.out (HR.out.on rfl hw).hH (HR.out.on rfl hw).hblk h1 h2 (by omega) hsz
        have R5 := Lib.hid r5
        clear hmm hpc hnn hpp he r5 HLo HHi hlt
        by_cases h1 : s < m
        · by_cases h2 : m < e
          · have HC := Lib.hid (HRot.out h1 h2 _ HSW.out)
            go_wp2_with fail
            refine HC.out.mono ?_
            rintro e1 w1 ⟨rfl, d1, hd1, hsw1, hF1⟩
            have hb0 := sw_at hsw1 w.heap.size 0 _ HBN.out (by have := HSW.out.le; simp at this; omega) c0
            have hb1 := sw_at hsw1 w.heap.size 1 _ HBN.out (by have := HSW.out.le; simp at this; omega) c1
            have HSW1 := Lib.hid (sw_trans HSW.out HR.out.hblk hsw1 hd1)
            have HF1 := Lib.hid hF1
            clear hsw1 hF1 c0 c1
            by_cases h3 : a < s
            · by_cases h4 : s < c
              · have HC := Lib.hid (HI.out a s c d1 _ (by omega) h3 h4 (by omega) hd1 (HR.out.on hd1 HSW1.out) (by rw [HF1.out]; exact HPc.out.1) (by rw [HF1.out]; exact HPc.out.2.1))
                go_wp2_with fail
                refine HC.out.mono ?_
                rintro e2 w2 ⟨rfl, d2, hd2, hsw2, hK2, hA2⟩
                have hb2 := sw_at hsw2 w.heap.size 0 _ HBN.out (by have := HSW1.out.le; simp at this; omega) hb0
                have hb3 := sw_at hsw2 w.heap.size 1 _ HBN.out (by have := HSW1.out.le; simp at this; omega) hb1
                have HSW2 := Lib.hid (sw_trans HSW1.out HR.out.hblk hsw2 (by omega))
                rw [HF1.out] at hK2
                have HK2 := Lib.hid hK2
                have HA3 := Lib.hid hA2
                have hd2' : d2.size = d.size := by omega
                clear hsw2 hK2 hA2 hb0 hb1
                have hP3 : Asc lt (rowF d2) c e := HPc.out.2.2.1.eq fun j g1 _ => HK2.out.out j (.inr g1)
                have hP4 : Asc lt (rowF d2) e b := HPc.out.2.2.2.eq fun j g1 _ => HK2.out.out j (.inr (by omega))
                have HP3 := Lib.hid hP3
                have HP4 := Lib.hid hP4
                clear hP3 hP4
                by_cases h5 : c < e
                · by_cases h6 : e < b
                  · have HC := Lib.hid (HI.out c e b d2 _ (by omega) h5 h6 (by omega) hd2' (HR.out.on hd2' HSW2.out) HP3.out HP4.out)
                    go_wp2_with fail
                    refine HC.out.mono ?_
                    rintro e3 w3 ⟨rfl, d3, hd3, hsw3, hK3, hA3⟩
                    have HSW3 := Lib.hid (sw_trans HSW2.out HR.out.hblk hsw3 (by omega))
                    have HDn := Lib.hid (merge_done HO.out (by omega) (by omega) HM.out.1 HM.out.2 HK2.out HA3.out hK3 hA3)
                    clear hsw3 hK3 hA3
                    go_wp2_with fail
                    go_end0
                    exact ⟨rfl, d3, by omega, sw_alloc HSW3.out HB.out, HDn.out.1, HDn.out.2⟩
                  · have g6 : decide (e < b) = false := by simpa using h6
                    have HDn := Lib.hid (merge_done HO.out (by omega) (by omega) HM.out.1 HM.out.2 HK2.out HA3.out (Kept.refl _ _ _ _) (asc_or r7 r4 (by omega) HP3.out HP4.out))
                    go_wp2_with fail
                    go_end0
                    exact ⟨rfl, d2, hd2', sw_alloc HSW2.out HB.out, HDn.out.1, HDn.out.2⟩
                · have g5 : decide (c < e) = false := by simpa using h5
                  have HDn := Lib.hid (merge_done HO.out (by omega) (by omega) HM.out.1 HM.out.2 HK2.out HA3.out (Kept.refl _ _ _ _) (asc_or r7 r4 (by omega) HP3.out HP4.out))
                  go_wp2_with fail
                  go_end0
                  exact ⟨rfl, d2, hd2', sw_alloc HSW2.out HB.out, HDn.out.1, HDn.out.2⟩
              · have g4 : decide (s < c) = false := by simpa using h4
                have hd2' := hd1
                have HSW2 := HSW1
                have HK2 : Hid (Kept lt (rotF (rowF d) s m e) (rowF d1) a c) := Lib.hid (by rw [HF1.out]; exact Kept.refl _ _ _ _)
                have HA3 := Lib.hid (show Asc lt (rowF d1) a c by rw [HF1.out]; exact asc_or r1 r6 (by omega) HPc.out.1 HPc.out.2.1)
                have hb2 := hb0
                have hb3 := hb1
                clear hb0 hb1
                have hP3 : Asc lt (rowF d1) c e := HPc.out.2.2.1.eq fun j g1 _ => HK2.out.out j (.inr g1)
                have hP4 : Asc lt (rowF d1) e b := HPc.out.2.2.2.eq fun j g1 _ => HK2.out.out j (.inr (by omega))
                have HP3 := Lib.hid hP3
                have HP4 := Lib.hid hP4
                clear hP3 hP4
                by_cases h5 : c < e
                · by_cases h6 : e < b
                  · have HC := Lib.hid (HI.out c e b d1 _ (by omega) h5 h6 (by omega) hd2' (HR.out.on hd2' HSW2.out) HP3.out HP4.out)
                    go_wp2_with fail
                    refine HC.out.mono ?_
                    rintro e3 w3 ⟨rfl, d3, hd3, hsw3, hK3, hA3⟩
                    have HSW3 := Lib.hid (sw_trans HSW2.out HR.out.hblk hsw3 (by omega))
                    have HDn := Lib.hid (merge_done HO.out (by omega) (by omega) HM.out.1 HM.out.2 HK2.out HA3.out hK3 hA3)
                    clear hsw3 hK3 hA3
                    go_wp2_with fail
                    go_end0
                    exact ⟨rfl, d3, by omega, sw_alloc HSW3.out HB.out, HDn.out.1, HDn.out.2⟩
                  · have g6 : decide (e < b) = false := by simpa using h6
                    have HDn := Lib.hid (merge_done HO.out (by omega) (by omega) HM.out.1 HM.out.2 HK2.out HA3.out (Kept.refl _ _ _ _) (asc_or r7 r4 (by omega) HP3.out HP4.out))
                    go_wp2_with fail
                    go_end0
                    exact ⟨rfl, d1, hd2', sw_alloc HSW2.out HB.out, HDn.out.1, HDn.out.2⟩
                · have g5 : decide (c < e) = false := by simpa using h5
                  have HDn := Lib.hid (merge_done HO.out (by omega) (by omega) HM.out.1 HM.out.2 HK2.out HA3.out (Kept.refl _ _ _ _) (asc_or r7 r4 (by omega) HP3.out HP4.out))
                  go_wp2_with fail
                  go_end0
                  exact ⟨rfl, d1, hd2', sw_alloc HSW2.out HB.out, HDn.out.1, HDn.out.2⟩
            · have g3 : decide (a < s) = false := by simpa using h3
              have hd2' := hd1
              have HSW2 := HSW1
              have HK2 : Hid (Kept lt (rotF (rowF d) s m e) (rowF d1) a c) := Lib.hid (by rw [HF1.out]; exact Kept.refl _ _ _ _)
              have HA3 := Lib.hid (show Asc lt (rowF d1) a c by rw [HF1.out]; exact asc_or r1 r6 (by omega) HPc.out.1 HPc.out.2.1)
              have hb2 := hb0
              have hb3 := hb1
              clear hb0 hb1
              have hP3 : Asc lt (rowF d1) c e := HPc.out.2.2.1.eq fun j g1 _ => HK2.out.out j (.inr g1)
              have hP4 : Asc lt (rowF d1) e b := HPc.out.2.2.2.eq fun j g1 _ => HK2.out.out j (.inr (by omega))
              have HP3 := Lib.hid hP3
              have HP4 := Lib.hid hP4
              clear hP3 hP4
              by_cases h5 : c < e
              · by_cases h6 : e < b
                · have HC := Lib.hid (HI.out c e b d1 _ (by omega) h5 h6 (by omega) hd2' (HR.out.on hd2' HSW2.out) HP3.out HP4.out)
                  go_wp2_with fail
                  refine HC.out.mono ?_
                  rintro e3 w3 ⟨rfl, d3, hd3, hsw3, hK3, hA3⟩
                  have HSW3 := Lib.hid (sw_trans HSW2.out HR.out.hblk hsw3 (by omega))
                  have HDn := Lib.hid (merge_done HO.out (by omega) (by omega) HM.out.1 HM.out.2 HK2.out HA3.out hK3 hA3)
                  clear hsw3 hK3 hA3
                  go_wp2_with fail
                  go_end0
                  exact ⟨rfl, d3, by omega, sw_alloc HSW3.out HB.out, HDn.out.1, HDn.out.2⟩
                · have g6 : decide (e < b) = false := by simpa using h6
                  have HDn := Lib.hid (merge_done HO.out (by omega) (by omega) HM.out.1 HM.out.2 HK2.out HA3.out (Kept.refl _ _ _ _) (asc_or r7 r4 (by omega) HP3.out HP4.out))
                  go_wp2_with fail
                  go_end0
                  exact ⟨rfl, d1, hd2', sw_alloc HSW2.out HB.out, HDn.out.1, HDn.out.2⟩
              · have g5 : decide (c < e) = false := by simpa using h5
                have HDn := Lib.hid (merge_done HO.out (by omega) (by omega) HM.out.1 HM.out.2 HK2.out HA3.out (Kept.refl _ _ _ _) (asc_or r7 r4 (by omega) HP3.out HP4.out))
                go_wp2_with fail
                go_end0
                exact ⟨rfl, d1, hd2', sw_alloc HSW2.out HB.out, HDn.out.1, HDn.out.2⟩
          · have g2 : decide (m < e) = false := by simpa using h2
            obtain ⟨d1, hde⟩ : ∃ d1 : Array α, d1 = d := ⟨d, rfl⟩
            have hd1 : d1.size = d.size := by rw [hde]
            have HSW1 : Hid (SW enc (w.alloc (.cells #[.func (.func g) #[] lb, .func (.func sf) #[] sb] 70)) blk off d1 wr) := Lib.hid (by rw [hde]; exact HSW.out)
            have HF1 : Hid (rowF d1 = rotF (rowF d) s m e) := Lib.hid (by rw [hde, show e = m by omega, rotF_none'])
            have hb0 := c0
            have hb1 := c1
            clear c0 c1 hde
            by_cases h3 : a < s
            · by_cases h4 : s < c
              · have HC := Lib.hid (HI.out a s c d1 _ (by omega) h3 h4 (by omega) hd1 (HR.out.on hd1 HSW1.out) (by rw [HF1.out]; exact HPc.out.1) (by rw [HF1.out]; exact HPc.out.2.1))
                go_wp2_with fail
                refine HC.out.mono ?_
                rintro e2 w2 ⟨rfl, d2, hd2, hsw2, hK2, hA2⟩
                have hb2 := sw_at hsw2 w.heap.size 0 _ HBN.out (by have := HSW1.out.le; simp at this; omega) hb0
                have hb3 := sw_at hsw2 w.heap.size 1 _ HBN.out (by have := HSW1.out.le; simp at this; omega) hb1
                have HSW2 := Lib.hid (sw_trans HSW1.out HR.out.hblk hsw2 (by omega))
                rw [HF1.out] at hK2
                have HK2 := Lib.hid hK2
                have HA3 := Lib.hid hA2
                have hd2' : d2.size = d.size := by omega
                clear hsw2 hK2 hA2 hb0 hb1
                have hP3 : Asc lt (rowF d2) c e := HPc.out.2.2.1.eq fun j g1 _ => HK2.out.out j (.inr g1)
                have hP4 : Asc lt (rowF d2) e b := HPc.out.2.2.2.eq fun j g1 _ => HK2.out.out j (.inr (by omega))
                have HP3 := Lib.hid hP3
                have HP4 := Lib.hid hP4
                clear hP3 hP4
                by_cases h5 : c < e
                · by_cases h6 : e < b
                  · have HC := Lib.hid (HI.out c e b d2 _ (by omega) h5 h6 (by omega) hd2' (HR.out.on hd2' HSW2.out) HP3.out HP4.out)
                    go_wp2_with fail
                    refine HC.out.mono ?_
                    rintro e3 w3 ⟨rfl, d3, hd3, hsw3, hK3, hA3⟩
                    have HSW3 := Lib.hid (sw_trans HSW2.out HR.out.hblk hsw3 (by omega))
                    have HDn := Lib.hid (merge_done HO.out (by omega) (by omega) HM.out.1 HM.out.2 HK2.out HA3.out hK3 hA3)
                    clear hsw3 hK3 hA3
                    go_wp2_with fail
                    go_end0
                    exact ⟨rfl, d3, by omega, sw_alloc HSW3.out HB.out, HDn.out.1, HDn.out.2⟩
                  · have g6 : decide (e < b) = false := by simpa using h6
                    have HDn := Lib.hid (merge_done HO.out (by omega) (by omega) HM.out.1 HM.out.2 HK2.out HA3.out (Kept.refl _ _ _ _) (asc_or r7 r4 (by omega) HP3.out HP4.out))
                    go_wp2_with fail
                    go_end0
                    exact ⟨rfl, d2, hd2', sw_alloc HSW2.out HB.out, HDn.out.1, HDn.out.2⟩
                · have g5 : decide (c < e) = false := by simpa using h5
                  have HDn := Lib.hid (merge_done HO.out (by omega) (by omega) HM.out.1 HM.out.2 HK2.out HA3.out (Kept.refl _ _ _ _) (asc_or r7 r4 (by omega) HP3.out HP4.out))
                  go_wp2_with fail
                  go_end0
                  exact ⟨rfl, d2, hd2', sw_alloc HSW2.out HB.out, HDn.out.1, HDn.out.2⟩
              · have g4 : decide (s < c) = false := by simpa using h4
                have hd2' := hd1
                have HSW2 := HSW1
                have HK2 : Hid (Kept lt (rotF (rowF d) s m e) (rowF d1) a c) := Lib.hid (by rw [HF1.out]; exact Kept.refl _ _ _ _)
                have HA3 := Lib.hid (show Asc lt (rowF d1) a c by rw [HF1.out]; exact asc_or r1 r6 (by omega) HPc.out.1 HPc.out.2.1)
                have hb2 := hb0
                have hb3 := hb1
                clear hb0 hb1
                have hP3 : Asc lt (rowF d1) c e := HPc.out.2.2.1.eq fun j g1 _ => HK2.out.out j (.inr g1)
                have hP4 : Asc lt (rowF d1) e b := HPc.out.2.2.2.eq fun j g1 _ => HK2.out.out j (.inr (by omega))
                have HP3 := Lib.hid hP3
                have HP4 := Lib.hid hP4
                clear hP3 hP4
                by_cases h5 : c < e
                · by_cases h6 : e < b
                  · have HC := Lib.hid (HI.out c e b d1 _ (by omega) h5 h6 (by omega) hd2' (HR.out.on hd2' HSW2.out) HP3.out HP4.out)
                    go_wp2_with fail
                    refine HC.out.mono ?_
                    rintro e3 w3 ⟨rfl, d3, hd3, hsw3, hK3, hA3⟩
                    have HSW3 := Lib.hid (sw_trans HSW2.out HR.out.hblk hsw3 (by omega))
                    have HDn := Lib.hid (merge_done HO.out (by omega) (by omega) HM.out.1 HM.out.2 HK2.out HA3.out hK3 hA3)
                    clear hsw3 hK3 hA3
                    go_wp2_with fail
                    go_end0
                    exact ⟨rfl, d3, by omega, sw_alloc HSW3.out HB.out, HDn.out.1, HDn.out.2⟩
                  · have g6 : decide (e < b) = false := by simpa using h6
                    have HDn := Lib.hid (merge_done HO.out (by omega) (by omega) HM.out.1 HM.out.2 HK2.out HA3.out (Kept.refl _ _ _ _) (asc_or r7 r4 (by omega) HP3.out HP4.out))
                    go_wp2_with fail
                    go_end0
                    exact ⟨rfl, d1, hd2', sw_alloc HSW2.out HB.out, HDn.out.1, HDn.out.2⟩
                · have g5 : decide (c < e) = false := by simpa using h5
                  have HDn := Lib.hid (merge_done HO.out (by omega) (by omega) HM.out.1 HM.out.2 HK2.out HA3.out (Kept.refl _ _ _ _) (asc_or r7 r4 (by omega) HP3.out HP4.out))
                  go_wp2_with fail
                  go_end0
                  exact ⟨rfl, d1, hd2', sw_alloc HSW2.out HB.out, HDn.out.1, HDn.out.2⟩
            · have g3 : decide (a < s) = false := by simpa using h3
              have hd2' := hd1
              have HSW2 := HSW1
              have HK2 : Hid (Kept lt (rotF (rowF d) s m e) (rowF d1) a c) := Lib.hid (by rw [HF1.out]; exact Kept.refl _ _ _ _)
              have HA3 := Lib.hid (show Asc lt (rowF d1) a c by rw [HF1.out]; exact asc_or r1 r6 (by omega) HPc.out.1 HPc.out.2.1)
              have hb2 := hb0
              have hb3 := hb1
              clear hb0 hb1
              have hP3 : Asc lt (rowF d1) c e := HPc.out.2.2.1.eq fun j g1 _ => HK2.out.out j (.inr g1)
              have hP4 : Asc lt (rowF d1) e b := HPc.out.2.2.2.eq fun j g1 _ => HK2.out.out j (.inr (by omega))
              have HP3 := Lib.hid hP3
              have HP4 := Lib.hid hP4
              clear hP3 hP4
              by_cases h5 : c < e
              · by_cases h6 : e < b
                · have HC := Lib.hid (HI.out c e b d1 _ (by omega) h5 h6 (by omega) hd2' (HR.out.on hd2' HSW2.out) HP3.out HP4.out)
                  go_wp2_with fail
                  refine HC.out.mono ?_
                  rintro e3 w3 ⟨rfl, d3, hd3, hsw3, hK3, hA3⟩
                  have HSW3 := Lib.hid (sw_trans HSW2.out HR.out.hblk hsw3 (by omega))
                  have HDn := Lib.hid (merge_done HO.out (by omega) (by omega) HM.out.1 HM.out.2 HK2.out HA3.out hK3 hA3)
                  clear hsw3 hK3 hA3
                  go_wp2_with fail
                  go_end0
                  exact ⟨rfl, d3, by omega, sw_alloc HSW3.out HB.out, HDn.out.1, HDn.out.2⟩
                · have g6 : decide (e < b) = false := by simpa using h6
                  have HDn := Lib.hid (merge_done HO.out (by omega) (by omega) HM.out.1 HM.out.2 HK2.out HA3.out (Kept.refl _ _ _ _) (asc_or r7 r4 (by omega) HP3.out HP4.out))
                  go_wp2_with fail
                  go_end0
                  exact ⟨rfl, d1, hd2', sw_alloc HSW2.out HB.out, HDn.out.1, HDn.out.2⟩
              · have g5 : decide (c < e) = false := by simpa using h5
                have HDn := Lib.hid (merge_done HO.out (by omega) (by omega) HM.out.1 HM.out.2 HK2.out HA3.out (Kept.refl _ _ _ _) (asc_or r7 r4 (by omega) HP3.out HP4.out))
                go_wp2_with fail
                go_end0
                exact ⟨rfl, d1, hd2', sw_alloc HSW2.out HB.out, HDn.out.1, HDn.out.2⟩
        · have g1 : decide (s < m) = false := by simpa using h1
          obtain ⟨d1, hde⟩ : ∃ d1 : Array α, d1 = d := ⟨d, rfl⟩
          have hd1 : d1.size = d.size := by rw [hde]
          have HSW1 : Hid (SW enc (w.alloc (.cells #[.func (.func g) #[] lb, .func (.func sf) #[] sb] 70)) blk off d1 wr) := Lib.hid (by rw [hde]; exact HSW.out)
          have HF1 : Hid (rowF d1 = rotF (rowF d) s m e) := Lib.hid (by rw [hde, show s = m by omega, rotF_none])
          have hb0 := c0
          have hb1 := c1
          clear c0 c1 hde
          by_cases h3 : a < s
          · by_cases h4 : s < c
            · have HC := Lib.hid (HI.out a s c d1 _ (by omega) h3 h4 (by omega) hd1 (HR.out.on hd1 HSW1.out) (by rw [HF1.out]; exact HPc.out.1) (by rw [HF1.out]; exact HPc.out.2.1))
              go_wp2_with fail
              refine HC.out.mono ?_
              rintro e2 w2 ⟨rfl, d2, hd2, hsw2, hK2, hA2⟩
              have hb2 := sw_at hsw2 w.heap.size 0 _ HBN.out (by have := HSW1.out.le; simp at this; omega) hb0
              have hb3 := sw_at hsw2 w.heap.size 1 _ HBN.out (by have := HSW1.out.le; simp at this; omega) hb1
              have HSW2 := Lib.hid (sw_trans HSW1.out HR.out.hblk hsw2 (by omega))
              rw [HF1.out] at hK2
              have HK2 := Lib.hid hK2
              have HA3 := Lib.hid hA2
              have hd2' : d2.size = d.size := by omega
              clear hsw2 hK2 hA2 hb0 hb1
              have hP3 : Asc lt (rowF d2) c e := HPc.out.2.2.1.eq fun j g1 _ => HK2.out.out j (.inr g1)
              have hP4 : Asc lt (rowF d2) e b := HPc.out.2.2.2.eq fun j g1 _ => HK2.out.out j (.inr (by omega))
              have HP3 := Lib.hid hP3
              have HP4 := Lib.hid hP4
              clear hP3 hP4
              by_cases h5 : c < e
              · by_cases h6 : e < b
                · have HC := Lib.hid (HI.out c e b d2 _ (by omega) h5 h6 (by omega) hd2' (HR.out.on hd2' HSW2.out) HP3.out HP4.out)
                  go_wp2_with fail
                  refine HC.out.mono ?_
                  rintro e3 w3 ⟨rfl, d3, hd3, hsw3, hK3, hA3⟩
                  have HSW3 := Lib.hid (sw_trans HSW2.out HR.out.hblk hsw3 (by omega))
                  have HDn := Lib.hid (merge_done HO.out (by omega) (by omega) HM.out.1 HM.out.2 HK2.out HA3.out hK3 hA3)
                  clear hsw3 hK3 hA3
                  go_wp2_with fail
                  go_end0
                  exact ⟨rfl, d3, by omega, sw_alloc HSW3.out HB.out, HDn.out.1, HDn.out.2⟩
                · have g6 : decide (e < b) = false := by simpa using h6
                  have HDn := Lib.hid (merge_done HO.out (by omega) (by omega) HM.out.1 HM.out.2 HK2.out HA3.out (Kept.refl _ _ _ _) (asc_or r7 r4 (by omega) HP3.out HP4.out))
                  go_wp2_with fail
                  go_end0
                  exact ⟨rfl, d2, hd2', sw_alloc HSW2.out HB.out, HDn.out.1, HDn.out.2⟩
              · have g5 : decide (c < e) = false := by simpa using h5
                have HDn := Lib.hid (merge_done HO.out (by omega) (by omega) HM.out.1 HM.out.2 HK2.out HA3.out (Kept.refl _ _ _ _) (asc_or r7 r4 (by omega) HP3.out HP4.out))
                go_wp2_with fail
                go_end0
                exact ⟨rfl, d2, hd2', sw_alloc HSW2.out HB.out, HDn.out.1, HDn.out.2⟩
            · have g4 : decide (s < c) = false := by simpa using h4
              have hd2' := hd1
              have HSW2 := HSW1
              have HK2 : Hid (Kept lt (rotF (rowF d) s m e) (rowF d1) a c) := Lib.hid (by rw [HF1.out]; exact Kept.refl _ _ _ _)
              have HA3 := Lib.hid (show Asc lt (rowF d1) a c by rw [HF1.out]; exact asc_or r1 r6 (by omega) HPc.out.1 HPc.out.2.1)
              have hb2 := hb0
              have hb3 := hb1
              clear hb0 hb1
              have hP3 : Asc lt (rowF d1) c e := HPc.out.2.2.1.eq fun j g1 _ => HK2.out.out j (.inr g1)
              have hP4 : Asc lt (rowF d1) e b := HPc.out.2.2.2.eq fun j g1 _ => HK2.out.out j (.inr (by omega))
              have HP3 := Lib.hid hP3
              have HP4 := Lib.hid hP4
              clear hP3 hP4
              by_cases h5 : c < e
              · by_cases h6 : e < b
                · have HC := Lib.hid (HI.out c e b d1 _ (by omega) h5 h6 (by omega) hd2' (HR.out.on hd2' HSW2.out) HP3.out HP4.out)
                  go_wp2_with fail
                  refine HC.out.mono ?_
                  rintro e3 w3 ⟨rfl, d3, hd3, hsw3, hK3, hA3⟩
                  have HSW3 := Lib.hid (sw_trans HSW2.out HR.out.hblk hsw3 (by omega))
                  have HDn := Lib.hid (merge_done HO.out (by omega) (by omega) HM.out.1 HM.out.2 HK2.out HA3.out hK3 hA3)
                  clear hsw3 hK3 hA3
                  go_wp2_with fail
                  go_end0
                  exact ⟨rfl, d3, by omega, sw_alloc HSW3.out HB.out, HDn.out.1, HDn.out.2⟩
                · have g6 : decide (e < b) = false := by simpa using h6
                  have HDn := Lib.hid (merge_done HO.out (by omega) (by omega) HM.out.1 HM.out.2 HK2.out HA3.out (Kept.refl _ _ _ _) (asc_or r7 r4 (by omega) HP3.out HP4.out))
                  go_wp2_with fail
                  go_end0
                  exact ⟨rfl, d1, hd2', sw_alloc HSW2.out HB.out, HDn.out.1, HDn.out.2⟩
              · have g5 : decide (c < e) = false := by simpa using h5
                have HDn := Lib.hid (merge_done HO.out (by omega) (by omega) HM.out.1 HM.out.2 HK2.out HA3.out (Kept.refl _ _ _ _) (asc_or r7 r4 (by omega) HP3.out HP4.out))
                go_wp2_with fail
                go_end0
                exact ⟨rfl, d1, hd2', sw_alloc HSW2.out HB.out, HDn.out.1, HDn.out.2⟩
          · have g3 : decide (a < s) = false := by simpa using h3
            have hd2' := hd1
            have HSW2 := HSW1
            have HK2 : Hid (Kept lt (rotF (rowF d) s m e) (rowF d1) a c) := Lib.hid (by rw [HF1.out]; exact Kept.refl _ _ _ _)
            have HA3 := Lib.hid (show Asc lt (rowF d1) a c by rw [HF1.out]; exact asc_or r1 r6 (by omega) HPc.out.1 HPc.out.2.1)
            have hb2 := hb0
            have hb3 := hb1
            clear hb0 hb1
            have hP3 : Asc lt (rowF d1) c e := HPc.out.2.2.1.eq fun j g1 _ => HK2.out.out j (.inr g1)
            have hP4 : Asc lt (rowF d1) e b := HPc.out.2.2.2.eq fun j g1 _ => HK2.out.out j (.inr (by omega))
            have HP3 := Lib.hid hP3
            have HP4 := Lib.hid hP4
            clear hP3 hP4
            by_cases h5 : c < e
            · by_cases h6 : e < b
              · have HC := Lib.hid (HI.out c e b d1 _ (by omega) h5 h6 (by omega) hd2' (HR.out.on hd2' HSW2.out) HP3.out HP4.out)
                go_wp2_with fail
                refine HC.out.mono ?_
                rintro e3 w3 ⟨rfl, d3, hd3, hsw3, hK3, hA3⟩
                have HSW3 := Lib.hid (sw_trans HSW2.out HR.out.hblk hsw3 (by omega))
                have HDn := Lib.hid (merge_done HO.out (by omega) (by omega) HM.out.1 HM.out.2 HK2.out HA3.out hK3 hA3)
                clear hsw3 hK3 hA3
                go_wp2_with fail
                go_end0
                exact ⟨rfl, d3, by omega, sw_alloc HSW3.out HB.out, HDn.out.1, HDn.out.2⟩
              · have g6 : decide (e < b) = false := by simpa using h6
                have HDn := Lib.hid (merge_done HO.out (by omega) (by omega) HM.out.1 HM.out.2 HK2.out HA3.out (Kept.refl _ _ _ _) (asc_or r7 r4 (by omega) HP3.out HP4.out))
                go_wp2_with fail
                go_end0
                exact ⟨rfl, d1, hd2', sw_alloc HSW2.out HB.out, HDn.out.1, HDn.out.2⟩
            · have g5 : decide (c < e) = false := by simpa using h5
              have HDn := Lib.hid (merge_done HO.out (by omega) (by omega) HM.out.1 HM.out.2 HK2.out HA3.out (Kept.refl _ _ _ _) (asc_or r7 r4 (by omega) HP3.out HP4.out))
              go_wp2_with fail
              go_end0
              exact ⟨rfl, d1, hd2', sw_alloc HSW2.out HB.out, HDn.out.1, HDn.out.2⟩
end Go.Proofs.YtpkclmfadlkbeaaDoor

namespace Go.Proofs.YtpkclmfadlkbeaaDoor
open Go.Shelf Go.RowKit Go.Lib Go.Sort
variable {α : Type} [Inhabited α] {enc : α → Value}

theorem sm_all (g : Nat) (lb : Array Value) (sf : Nat) (sb : Array Value) (lt : α → α → Bool) (blk off size : Nat) (eg : ∀ args w, (callFunc g args).run Tryd.prog w = .ok (.enter g args) w) (hO : SWO lt) (hswap : SwapSwaps Tryd.prog sf sb enc blk off size) (hsz : size ≤ 1000000) : ∀ L, SmIH g lb sf sb enc lt blk off size L
  | 0 => fun _ _ _ _ _ h => by omega
  | L + 1 => fun a m b d w h ham hmb hb hds hR hs hs2 => by
    have ih := sm_all g lb sf sb lt blk off size eg hO hswap hsz L
    subst hds
    by_cases h1 : m = a + 1
    · exact sm_one g lb sf sb lt blk off a m b d w eg hO hswap hR h1 hmb hb hsz hs2
    · by_cases h2 : b = m + 1
      · exact sm_last g lb sf sb lt blk off a m b d w eg hO hswap hR (by omega) h2 hb hsz hs
      · exact sm_mid g lb sf sb lt blk off a m b d w eg hO hswap hR (by omega) (by omega) hb hsz hs hs2 fun a' m' b' d' w' h' => ih a' m' b' d' w' (by omega)

theorem kept_inner {lt : α → α → Bool} (hO : SWO lt) {a b : Nat} : ∀ (j : Nat) (d : Array α), j < b → b ≤ d.size → (insInner lt a j d).size = d.size ∧ Kept lt (rowF d) (rowF (insInner lt a j d)) a b
  | 0, d, _, _ => ⟨rfl, Kept.refl _ _ _ _⟩
  | j + 1, d, hj, hb => by
    unfold insInner
    split
    · rename_i hc
      rw [Bool.and_eq_true, decide_eq_true_eq] at hc
      have e : rowF (swp d (j + 1) j) = rotF (rowF d) j (j + 1) (j + 2) := by
        rw [rowF_swp d (by omega) (by omega)]
        have := rotF_down (rowF d) (j + 1) j (by omega)
        rw [rotF_none] at this
        exact this
      obtain ⟨i1, i2⟩ := kept_inner hO (a := a) (b := b) j (swp d (j + 1) j) (by omega) (by rw [size_swp]; exact hb)
      refine ⟨i1.trans (size_swp _ _ _), Kept.trans ?_ i2⟩
      rw [e]
      exact (kept_rot hO (by omega) (by omega) (fun x y g1 g2 g3 g4 => by rw [show x = j by omega, show y = j + 1 by omega]; exact hc.2)).wide (by omega) (by omega) (by omega)
    · exact ⟨rfl, Kept.refl _ _ _ _⟩
theorem kept_outer {lt : α → α → Bool} (hO : SWO lt) {a b : Nat} : ∀ (k i : Nat) (d : Array α), b - i ≤ k → b ≤ d.size → (insOuter lt a b i d).size = d.size ∧ Kept lt (rowF d) (rowF (insOuter lt a b i d)) a b
  | 0, i, d, h, _ => by
    rw [insOuter, if_neg (by omega)]
    exact ⟨rfl, Kept.refl _ _ _ _⟩
  | k + 1, i, d, h, hb => by
    rw [insOuter]
    by_cases hi : i < b
    · rw [if_pos hi]
      obtain ⟨i1, i2⟩ := kept_inner hO (a := a) i d hi hb
      obtain ⟨o1, o2⟩ := kept_outer hO (a := a) (b := b) k (i + 1) (insInner lt a i d) (by omega) (by omega)
      exact ⟨o1.trans i1, i2.trans o2⟩
    · rw [if_neg hi]
      exact ⟨rfl, Kept.refl _ _ _ _⟩
theorem insInner_stop {lt : α → α → Bool} {a j : Nat} {d : Array α} (h : ¬ a < j) : insInner lt a j d = d := by
  cases j with
  | zero => rfl
  | succ j => unfold insInner; rw [if_neg (by simp; omega)]
theorem insInner_no {lt : α → α → Bool} {a p : Nat} {d : Array α} (h : lt d[p + 1]! d[p]! = false) : insInner lt a (p + 1) d = d := by unfold insInner; rw [if_neg (by simp [h])]
theorem insInner_yes {lt : α → α → Bool} {a p : Nat} {d : Array α} (ha : a < p + 1) (h : lt d[p + 1]! d[p]! = true) : insInner lt a (p + 1) d = insInner lt a p (swp d (p + 1) p) := by rw [insInner, if_pos (by simp [h]; omega)]
theorem insInner_size {lt : α → α → Bool} {a : Nat} : ∀ (j : Nat) (d : Array α), (insInner lt a j d).size = d.size
  | 0, _ => rfl
  | j + 1, d => by
    unfold insInner
    split
    · rw [insInner_size j]; exact size_swp _ _ _
    · rfl

set_option maxHeartbeats 2000000 in
set_option maxRecDepth 100000 in
theorem ins_any (g : Nat) (lb : Array Value) (sf : Nat) (sb : Array Value) (lt : α → α → Bool) (blk off a b : Nat) (d : Array α) (w : World)
    (eg : ∀ args w, (callFunc g args).run Tryd.prog w = .ok (.enter g args) w) (hO : SWO lt) (hswap : SwapSwaps Tryd.prog sf sb enc blk off d.size) (hR : Rdy g lb enc lt blk off d w) (hab : a ≤ b) (hb : b ≤ d.size) (hsz : d.size ≤ 1000000) :
    Calls Tryd.prog 51 #[.agg #[.func (.func g) #[] lb, .func (.func sf) #[] sb], .int .i64 a, .int .i64 b] w (Mrg enc lt blk off d a b w) := by
  have hmrg : ∀ (dk : Array α) (W : World), dk = insertionSort lt d a b → SW enc w blk off dk W → Mrg enc lt blk off d a b w (.returned (.tuple #[])) W := fun dk W he hsw => by
    subst he
    obtain ⟨h1, h2⟩ := kept_outer hO (a := a) (b := b) (b - (a + 1)) (a + 1) d (Nat.le_refl _) hb
    exact ⟨rfl, insertionSort lt d a b, h1, hsw, h2, fun i j g1 g2 g3 => (insertionSort_holds hO d a b hab hb).2 i j g1 g2 g3⟩
  have HMg := Lib.hid hmrg
  have HR := Lib.hid (hR.new (.cells #[.func (.func g) #[] lb, .func (.func sf) #[] sb] 70))
  have HB := Lib.hid hR.hblk
  have HBN := Lib.hid (show w.heap.size ≠ blk by have := hR.hblk; omega)
  have HSw := Lib.hid hswap
  clear hR hswap hmrg hO
  go_enter Tryd.func51, Tryd.ntmps51
  go_wp2
  go_loopw [6] (fun s wr => ∃ (i : Nat) (dk : Array α), s = .int .i64 i ∧ a + 1 ≤ i ∧ i ≤ b + 1 ∧ dk.size = d.size ∧ SW enc (w.alloc (.cells #[.func (.func g) #[] lb, .func (.func sf) #[] sb] 70)) blk off dk wr ∧ insOuter lt a b i dk = insertionSort lt d a b) (fun s _ => b + 1 - (intOf s).toNat)
  case atStart => exact ⟨a + 1, d, by go_num, Nat.le_refl _, by omega, rfl, SW.start HR.out.hH, rfl⟩
  case round =>
    obtain ⟨i, dk, rfl, hai, hib, hds, hsw, hin⟩ := hrel
    have HSW := Lib.hid hsw
    have HIn := Lib.hid hin
    clear hsw hin
    by_cases hlt : i < b
    · have HIn2 : Hid (insOuter lt a b (i + 1) (insInner lt a i dk) = insertionSort lt d a b) := Lib.hid (by rw [← insOuter_go lt a b i dk hlt]; exact HIn.out)
      clear HIn
      go_wp2
      go_loopw [7] (fun s w2 => ∃ (j : Nat) (dj : Array α), s = .int .i64 j ∧ j ≤ i ∧ dj.size = d.size ∧ SW enc (w.alloc (.cells #[.func (.func g) #[] lb, .func (.func sf) #[] sb] 70)) blk off dj w2 ∧ insInner lt a j dj = insInner lt a i dk) (fun s _ => (intOf s).toNat)
      case atStart => exact ⟨i, dk, rfl, Nat.le_refl _, hds, HSW.out, rfl⟩
      case round =>
        rename World => wq
        clear HSW
        obtain ⟨j, dj, rfl, hji, hdj, hsw, hin⟩ := hrel
        have HSW := Lib.hid hsw
        have HIn := Lib.hid hin
        have c0 := sw_at hsw w.heap.size 0 (.func (.func g) #[] lb) HBN.out (by simp) (by simp)
        have HC1 := Lib.hid (fun (d2 : Array α) (W : World) (h : SW enc (w.alloc (.cells #[.func (.func g) #[] lb, .func (.func sf) #[] sb] 70)) blk off d2 W) => sw_at h w.heap.size 1 (.func (.func sf) #[] sb) HBN.out (by simp) (by simp))
        clear hsw hin
        by_cases hja : a < j
        · obtain ⟨p, rfl⟩ : ∃ p, j = p + 1 := ⟨j - 1, by omega⟩
          have hpp : (p : Int) + 1 - 1 = (p : Int) := by omega
          have hap : (a : Int) < (p : Int) + 1 := by omega
          have hc := (HR.out.on hdj HSW.out).lss (p + 1) p (by omega) (by omega)
          simp only [Int.natCast_add, Int.natCast_one] at hc
          have HC := Lib.hid hc
          clear hc
          cases hv : lt (rowF dj (p + 1)) (rowF dj p) with
          | true =>
            rw [hv] at HC
            go_wp2_with (go_at_fn g; refine HC.out.mono ?_; rintro e w' ⟨rfl, hsx⟩; have HSX := Lib.hid (sw_trans HSW.out HR.out.hblk hsx rfl); have c1 := HC1.out dj _ HSX.out; clear hsx)
            have hs := HSw.out _ dj (HSX.out.holds HR.out.hblk HR.out.hH hdj) hdj (p + 1) p (by omega) (by omega)
            have HNx := Lib.hid (HSX.out.swap HR.out.hblk (p + 1) p (by omega) (by omega))
            have HE : Hid (insInner lt a p (swp dj (p + 1) p) = insInner lt a i dk) := Lib.hid (by rw [← insInner_yes hja hv]; exact HIn.out)
            simp only [Int.natCast_add, Int.natCast_one] at hs
            have HS2 := Lib.hid hs
            clear hs
            go_wp2
            rw [HS2.out, Oper.upon_value]
            go_wp2
            go_roundw
            case rel => exact ⟨p, swp dj (p + 1) p, by go_num, by omega, by rw [size_swp]; exact hdj, HNx.out, HE.out⟩
            case measure => simp [intOf]
          | false =>
            rw [hv] at HC
            have HE : Hid (dj = insInner lt a i dk) := Lib.hid (by rw [← HIn.out]; exact (insInner_no hv).symm)
            go_wp2_with (go_at_fn g; refine HC.out.mono ?_; rintro e w' ⟨rfl, hsx⟩; have HSX := Lib.hid (sw_trans HSW.out HR.out.hblk hsx rfl); clear hsx)
            go_roundw
            case rel => exact ⟨i + 1, dj, by go_num, by omega, by omega, hdj, HSX.out, by rw [HE.out]; exact HIn2.out⟩
            case measure => simp [intOf]; omega
        · have HE : Hid (dj = insInner lt a i dk) := Lib.hid (by rw [← HIn.out]; exact (insInner_stop hja).symm)
          go_wp2
          go_roundw
          case rel => exact ⟨i + 1, dj, by go_num, by omega, by omega, hdj, HSW.out, by rw [HE.out]; exact HIn2.out⟩
          case measure => simp [intOf]; omega
    · have HE : Hid (dk = insertionSort lt d a b) := Lib.hid (by rw [← HIn.out]; exact (insOuter_stop lt a b i dk hlt).symm)
      go_wp2
      go_end0
      exact HMg.out dk _ HE.out (sw_alloc HSW.out HB.out)

set_option maxHeartbeats 2000000 in
set_option maxRecDepth 100000 in
theorem stable_any (g : Nat) (lb : Array Value) (sf : Nat) (sb : Array Value) (lt : α → α → Bool) (blk off n : Nat) (d : Array α) (w : World)
    (eg : ∀ args w, (callFunc g args).run Tryd.prog w = .ok (.enter g args) w) (hO : SWO lt) (hswap : SwapSwaps Tryd.prog sf sb enc blk off d.size) (hR : Rdy g lb enc lt blk off d w) (hn : d.size = n) (hsz : n ≤ 1000000) :
    Calls Tryd.prog 33 #[.agg #[.func (.func g) #[] lb, .func (.func sf) #[] sb], .int .i64 n] w (Mrg enc lt blk off d 0 n w) := by
  have HO := Lib.hid hO
  have HR := Lib.hid (hR.new (.cells #[.func (.func g) #[] lb, .func (.func sf) #[] sb] 70))
  have HB := Lib.hid hR.hblk
  have HBN := Lib.hid (show w.heap.size ≠ blk by have := hR.hblk; omega)
  have HI := Lib.hid fun a b (dk : Array α) W (hds : dk.size = d.size) (hw : SW enc (w.alloc (.cells #[.func (.func g) #[] lb, .func (.func sf) #[] sb] 70)) blk off dk W) (hab : a ≤ b) (hb : b ≤ dk.size) => ins_any g lb sf sb lt blk off a b dk W eg hO (by rw [hds]; exact hswap) (HR.out.on hds hw) hab hb (by omega)
  have HM := Lib.hid fun a m b (dk : Array α) W (hds : dk.size = d.size) (hw : SW enc (w.alloc (.cells #[.func (.func g) #[] lb, .func (.func sf) #[] sb] 70)) blk off dk W) (ham : a < m) (hmb : m < b) (hb : b ≤ dk.size) (h1 : Asc lt (rowF dk) a m) (h2 : Asc lt (rowF dk) m b) => sm_all g lb sf sb lt blk off d.size eg hO hswap (by omega) (b - a + 1) a m b dk W (by omega) ham hmb hb hds (HR.out.on hds hw) h1 h2
  have HD := Lib.hid hn
  clear hO hR hswap hn eg
  go_enter Tryd.func33, Tryd.ntmps33
  go_wp2_with fail
  go_loopw [5, 6] (fun x y wr => ∃ (q a b : Nat) (dk : Array α), x = .int .i64 a ∧ y = .int .i64 b ∧ b = a + 20 ∧ a = q * 20 ∧ a ≤ n ∧ dk.size = d.size ∧ SW enc (w.alloc (.cells #[.func (.func g) #[] lb, .func (.func sf) #[] sb] 70)) blk off dk wr ∧ Kept lt (rowF d) (rowF dk) 0 n ∧ (∀ k, k < q → Asc lt (rowF dk) (k * 20) (k * 20 + 20))) (fun _ y _ => n + 20 - (intOf y).toNat)
  case atStart => exact ⟨0, 0, 20, d, rfl, rfl, rfl, rfl, Nat.zero_le _, rfl, SW.start HR.out.hH, Kept.refl _ _ _ _, fun k hk => by omega⟩
  case round =>
    obtain ⟨q, a, b, dk, rfl, rfl, hba, haq, han, hds, hsw, hK, hA⟩ := hrel
    have hdn : dk.size = n := hds.trans HD.out
    have c0 := sw_at hsw w.heap.size 0 (.func (.func g) #[] lb) HBN.out (by simp) (by simp)
    have c1 := sw_at hsw w.heap.size 1 (.func (.func sf) #[] sb) HBN.out (by simp) (by simp)
    have HSW := Lib.hid hsw
    have HK := Lib.hid hK
    have HA := Lib.hid hA
    have HQ := Lib.hid haq
    have HBA := Lib.hid hba
    have HDs := Lib.hid hds
    by_cases hbn : b ≤ n
    · have HC := Lib.hid (HI.out a b dk wr hds hsw (by omega) (by omega))
      clear hsw hK hA haq hba hds
      go_wp2_with fail
      refine HC.out.mono ?_
      rintro e w1 ⟨rfl, d1, hd1, hsw1, hK1, hA1⟩
      have HSW1 := Lib.hid (sw_trans HSW.out HR.out.hblk hsw1 hd1)
      have HK1 := Lib.hid (HK.out.trans (hK1.wide (Nat.zero_le _) (by have := HBA.out; omega) hbn))
      have hA2 : ∀ k, k < q + 1 → Asc lt (rowF d1) (k * 20) (k * 20 + 20) := fun k hk => by
        have h1 := HQ.out
        have h2 := HBA.out
        rcases Nat.lt_or_eq_of_le (Nat.le_of_lt_succ hk) with h | rfl
        · exact hK1.ahead (HA.out k h) (by omega)
        · rw [← h1, ← h2]; exact hA1
      have HA2 := Lib.hid hA2
      clear hsw1 hK1 hA1 hA2
      go_wp2_with fail
      go_roundw
      case rel => exact ⟨q + 1, b, b + 20, d1, rfl, by go_num, rfl, by have h1 := HQ.out; have h2 := HBA.out; omega, hbn, hd1.trans HDs.out, HSW1.out, HK1.out, HA2.out⟩
      case measure => simp [intOf]; omega
    · have HC := Lib.hid (HI.out a n dk wr hds hsw han (by omega))
      clear hsw hK hA haq hba hds
      go_wp2_with fail
      refine HC.out.mono ?_
      rintro e w1 ⟨rfl, d1, hd1, hsw1, hK1, hA1⟩
      have hbl : Blks lt (rowF d1) 20 n := blks_end (q := q) (fun k hk => hK1.ahead (HA.out k hk) (by have h1 := HQ.out; omega)) (by rw [← HQ.out]; exact hA1) (by have h1 := HQ.out; have h2 := HBA.out; omega)
      have HBl := Lib.hid hbl
      have HSW1 := Lib.hid (sw_trans HSW.out HR.out.hblk hsw1 hd1)
      have HK1 := Lib.hid (HK.out.trans (hK1.wide (Nat.zero_le _) han (Nat.le_refl _)))
      have HD1 := Lib.hid (hd1.trans HDs.out)
      clear hsw1 hK1 hA1 hbl hd1 c0 c1 hbn hdn
      go_wp2_with fail
      go_loopw [4] (fun x wr => ∃ (B : Nat) (dk : Array α), x = .int .i64 B ∧ 20 ≤ B ∧ B ≤ 2000000 ∧ dk.size = d.size ∧ SW enc (w.alloc (.cells #[.func (.func g) #[] lb, .func (.func sf) #[] sb] 70)) blk off dk wr ∧ Kept lt (rowF d) (rowF dk) 0 n ∧ Blks lt (rowF dk) B n) (fun x _ => n - (intOf x).toNat)
      case atStart => exact ⟨20, d1, rfl, Nat.le_refl _, by omega, HD1.out, HSW1.out, HK1.out, HBl.out⟩
      case round =>
        obtain ⟨B, dk2, rfl, hB1, hB2, hds2, hsw2, hK2, hBl2⟩ := hrel
        have HSW2 := Lib.hid hsw2
        have HK2 := Lib.hid hK2
        have HBl2 := Lib.hid hBl2
        have HDs2 := Lib.hid hds2
        clear hsw2 hK2 hBl2 hds2
        by_cases hBn : B < n
        · obtain ⟨C, hC⟩ : ∃ C, C = 2 * B := ⟨_, rfl⟩
          have hC1 : 2 * (B : Int) = (C : Int) := by omega
          have hC2 : (B : Int) * 2 = (C : Int) := by omega
          have hCb : C ≤ 2000000 := by omega
          have HC := Lib.hid hC
          clear hC
          go_wp2_with fail
          go_loopw [5, 6] (fun x y wr => ∃ (q a b : Nat) (dk : Array α), x = .int .i64 a ∧ y = .int .i64 b ∧ b = a + C ∧ a = q * C ∧ a ≤ n ∧ dk.size = d.size ∧ SW enc (w.alloc (.cells #[.func (.func g) #[] lb, .func (.func sf) #[] sb] 70)) blk off dk wr ∧ Kept lt (rowF d) (rowF dk) 0 n ∧ (∀ k, k < q → Asc lt (rowF dk) (k * C) (k * C + C)) ∧ (∀ k, Asc lt (rowF dk) (a + k * B) (min (a + k * B + B) n))) (fun _ y _ => n + C - (intOf y).toNat)
          case atStart => exact ⟨0, 0, C, dk2, rfl, rfl, by omega, by omega, Nat.zero_le _, HDs2.out, HSW2.out, HK2.out, fun k hk => by omega, fun k => by have := HBl2.out k; rwa [Nat.zero_add]⟩
          case round =>
            obtain ⟨q3, a3, b3, dk3, rfl, rfl, hba3, haq3, han3, hds3, hsw3, hK3, hA3, hR3⟩ := hrel
            have hdn3 : dk3.size = n := hds3.trans HD.out
            have c0 := sw_at hsw3 w.heap.size 0 (.func (.func g) #[] lb) HBN.out (by simp) (by simp)
            have c1 := sw_at hsw3 w.heap.size 1 (.func (.func sf) #[] sb) HBN.out (by simp) (by simp)
            have hr0 := hR3 0
            have hr1 := hR3 1
            rw [Nat.zero_mul, Nat.add_zero] at hr0
            rw [Nat.one_mul] at hr1
            have HSW3 := Lib.hid hsw3
            have HK3 := Lib.hid hK3
            have HA3 := Lib.hid hA3
            have HQ3 := Lib.hid haq3
            have HBA3 := Lib.hid hba3
            have HDs3 := Lib.hid hds3
            have HR3 := Lib.hid hR3
            have hCC := HC.out
            by_cases hbn3 : b3 ≤ n
            · rw [Nat.min_eq_left (by omega)] at hr0
              rw [Nat.min_eq_left (by omega)] at hr1
              have hc := HM.out a3 (a3 + B) b3 dk3 wr hds3 hsw3 (by omega) (by omega) (by omega) hr0 (by rw [show b3 = a3 + B + B by omega]; exact hr1)
              simp only [Int.natCast_add] at hc
              have HCl := Lib.hid hc
              clear hsw3 hK3 hA3 haq3 hba3 hds3 hR3 hr0 hr1 hc hCC
              go_wp2_with fail
              refine HCl.out.mono ?_
              rintro e w4 ⟨rfl, d4, hd4, hsw4, hK4, hA4⟩
              have HSW4 := Lib.hid (sw_trans HSW3.out HR.out.hblk hsw4 hd4)
              have HK4 := Lib.hid (HK3.out.trans (hK4.wide (Nat.zero_le _) (by have := HBA3.out; omega) hbn3))
              have hA5 : ∀ k, k < q3 + 1 → Asc lt (rowF d4) (k * C) (k * C + C) := fun k hk => by
                have h1 := HQ3.out
                have h2 := HBA3.out
                rcases Nat.lt_or_eq_of_le (Nat.le_of_lt_succ hk) with h | rfl
                · have h3 : (k + 1) * C ≤ q3 * C := Nat.mul_le_mul_right C h
                  rw [Nat.add_mul, Nat.one_mul] at h3
                  exact hK4.ahead (HA3.out k h) (by omega)
                · rw [← h1, ← h2]; exact hA4
              have hR5 : ∀ k, Asc lt (rowF d4) (b3 + k * B) (min (b3 + k * B + B) n) := fun k => by
                have h1 := HR3.out (k + 2)
                have h2 := HBA3.out
                have h3 := HC.out
                rw [Nat.add_mul, show a3 + (k * B + 2 * B) = b3 + k * B by omega] at h1
                exact hK4.ahead h1 (by omega)
              have HA5 := Lib.hid hA5
              have HR5 := Lib.hid hR5
              clear hsw4 hK4 hA4 hA5 hR5
              go_wp2_with fail
              go_roundw
              case rel => exact ⟨q3 + 1, b3, b3 + C, d4, rfl, by go_num, rfl, by have h1 := HQ3.out; have h2 := HBA3.out; rw [Nat.add_mul, Nat.one_mul]; omega, hbn3, hd4.trans HDs3.out, HSW4.out, HK4.out, HA5.out, HR5.out⟩
              case measure => simp [intOf]; omega
            · by_cases hmn : a3 + B < n
              · rw [Nat.min_eq_left (by omega)] at hr0
                rw [Nat.min_eq_right (by omega)] at hr1
                have hc := HM.out a3 (a3 + B) n dk3 wr hds3 hsw3 (by omega) hmn (by omega) hr0 hr1
                simp only [Int.natCast_add] at hc
                have HCl := Lib.hid hc
                clear hsw3 hK3 hA3 haq3 hba3 hds3 hR3 hr0 hr1 hc hCC
                go_wp2_with fail
                refine HCl.out.mono ?_
                rintro e w4 ⟨rfl, d4, hd4, hsw4, hK4, hA4⟩
                have HSW4 := Lib.hid (sw_trans HSW3.out HR.out.hblk hsw4 hd4)
                have HK4 := Lib.hid (HK3.out.trans (hK4.wide (Nat.zero_le _) han3 (Nat.le_refl _)))
                have hbl : Blks lt (rowF d4) C n := blks_end (q := q3) (fun k hk => hK4.ahead (HA3.out k hk) (by
                  have h1 := HQ3.out
                  have h3 : (k + 1) * C ≤ q3 * C := Nat.mul_le_mul_right C hk
                  rw [Nat.add_mul, Nat.one_mul] at h3
                  omega)) (by rw [← HQ3.out]; exact hA4) (by have h1 := HQ3.out; have h2 := HBA3.out; omega)
                have HBl4 := Lib.hid hbl
                clear hsw4 hK4 hA4 hbl
                go_wp2_with fail
                go_roundw
                case rel => exact ⟨C, d4, rfl, by have := HC.out; omega, hCb, hd4.trans HDs3.out, HSW4.out, HK4.out, HBl4.out⟩
                case measure => have := HC.out; simp [intOf]; omega
              · have hbl : Blks lt (rowF dk3) C n := blks_end (q := q3) hA3 (by
                  rw [← haq3]
                  rw [Nat.min_eq_right (by omega)] at hr0
                  exact hr0) (by omega)
                have HBl4 := Lib.hid hbl
                have g1 : decide (a3 + B < n) = false := by simpa using hmn
                clear hsw3 hK3 hA3 haq3 hba3 hds3 hR3 hr0 hr1 hCC hbl
                go_wp2_with fail
                go_roundw
                case rel => exact ⟨C, dk3, rfl, by have := HC.out; omega, hCb, HDs3.out, HSW3.out, HK3.out, HBl4.out⟩
                case measure => have := HC.out; simp [intOf]; omega
        · go_wp2_with fail
          go_end0
          refine ⟨rfl, dk2, HDs2.out, sw_alloc HSW2.out HB.out, HK2.out, ?_⟩
          have h := HBl2.out 0
          rw [Nat.zero_mul, Nat.zero_add, Nat.min_eq_right (by omega)] at h
          exact h
end Go.Proofs.YtpkclmfadlkbeaaDoor
