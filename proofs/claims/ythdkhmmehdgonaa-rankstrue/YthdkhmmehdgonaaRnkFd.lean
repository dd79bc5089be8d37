/-
  What ranks.increasing, countLess, Find and the document's RanksFind return: contracts, walked over the translated text. No condition but what each theorem names.
-/
import Derived.Test.YthdkhmmehdgonaaSrch
namespace Go.Proofs.Ythdkhmmehdgonaa
open Go.RowKit Words

set_option maxHeartbeats 1000000 in
/-- ranks.countLess. -/
theorem less_count (A : Option Addr) (l : List Int) (c : Nat) (x : Int) (w : World) (hn : l.length ≤ 1000000) (hs : l.Pairwise (· ≤ ·)) (hL : Lies w w.heap.size A (l.map (.int .i64))) :
    Calls Try.prog 16 #[.slice A l.length c, .int .i64 x] w fun e w' => e = .returned (.int .i64 (cntL l x : Nat)) ∧ w = w' := by
  have HS := Lib.hid (search_int A l c x w hn hs hL)
  clear hs hL
  generalize cntL l x = r at *
  generalize l.length = n at *
  go_enter Try.func16, Try.ntmps16
  go_wp2_with (go_at_call 24; refine HS.out.mono ?_; rintro e w' ⟨t, rfl, rfl⟩)
  go_ret
  exact ⟨rfl, rfl⟩

set_option maxHeartbeats 1000000 in
/-- ranks.increasing. -/
theorem incr_any (A : Option Addr) (l : List Int) (c : Nat) (w : World) (hn : l.length ≤ 17592186044416) (hL : Lies w w.heap.size A (l.map (.int .i64))) :
    Calls Try.prog 19 #[.slice A l.length c] w fun e w' => e = .returned (.bool (inc l)) ∧ ∃ d, w' = w.drewN d := by
  have HL := Lib.hid hL
  obtain ⟨n, hnn⟩ : ∃ n, l.length = n := ⟨_, rfl⟩
  have HN := Lib.hid hnn
  obtain ⟨r, hr⟩ : ∃ r, inc l = r := ⟨_, rfl⟩
  have HR := Lib.hid hr
  rw [hr]
  rw [hnn] at hn ⊢
  clear hnn hL hr
  go_enter Try.func19, Try.ntmps19
  go_wp2
  go_loopw [3] (fun u w' => ∃ k d : Nat, k ≤ n ∧ u = .int .i64 (k + 1 : Nat) ∧ w' = w.drewN d ∧ IncTo l (k + 1)) (fun u _ => n + 1 - (intOf u).toNat)
  case atStart => exact ⟨0, 0, Nat.zero_le _, rfl, rfl, IncTo.one l⟩
  case round =>
    obtain ⟨k, d, hk, rfl, rfl, hin⟩ := hrel
    have HI := Lib.hid hin
    clear hin
    obtain ⟨i, hi⟩ : ∃ i, k + 1 = i := ⟨_, rfl⟩
    rw [hi] at HI ⊢
    have HK := Lib.hid hi
    have hsub : (i : Int) - 1 = (k : Int) := by omega
    have hik : i ≤ n + 1 := by omega
    by_cases hlt : i < n
    · have hkn : k < n := by omega
      have hki : (i : Int) < (n : Int) := by omega
      have hkk : (k : Int) < (n : Int) := by omega
      obtain ⟨b, o, y, rfl, hb, hy, hc⟩ := HL.out.at_ (k := i) (by rw [HN.out]; exact hlt)
      obtain ⟨b2, o2, x, hA, hb2, hx, hc2⟩ := HL.out.at_ (k := k) (by rw [HN.out]; exact hkn)
      obtain ⟨rfl, rfl⟩ : b = b2 ∧ o = o2 := by injection hA with hA; injection hA with h1 h2; exact ⟨h1, h2⟩
      have HX := Lib.hid hx
      have HY := Lib.hid (show l[k + 1]? = some y by rw [HK.out]; exact hy)
      clear hx hy hA hi
      by_cases hle : y ≤ x
      · have HF := Lib.hid (inc_no HX.out HY.out hle)
        go_wp2
        go_quiet (fail)
        go_wp2
        go_ret
        exact ⟨by rw [← HR.out, HF.out]; rfl, by first | exact ⟨_, rfl⟩ | exact ⟨_, World.drewN_drewN _ _ _⟩⟩
      · have HF := Lib.hid (IncTo.step (by rw [HK.out]; exact HI.out) HX.out HY.out (by omega))
        go_wp2
        go_quiet (fail)
        go_wp2
        go_roundw
        case rel => exact ⟨i, _, by omega, by go_num, by first | rfl | (simp only [World.drewN_drewN]; rfl), by have := HF.out; rwa [show k + 2 = i + 1 by have := HK.out; omega] at this⟩
        case measure => simp [intOf]; omega
    · have HF := Lib.hid (HI.out.past (by rw [HN.out]; omega))
      clear hi
      go_wp2
      go_ret
      exact ⟨by rw [← HR.out, HF.out]; rfl, _, rfl⟩

/-- What Find answers: the error; the number. -/
def fndE (l : List Int) : Int := if 300 < l.length then 1 else if inc l then 0 else 4
def fndV (l : List Int) (x : Int) : Int := if 300 < l.length then 0 else if inc l then (cntL l x : Int) else 0

set_option maxHeartbeats 1000000 in
/-- ranks.Find. -/
theorem find_any (A : Option Addr) (l : List Int) (c : Nat) (x : Int) (w : World) (hn : l.length ≤ 17592186044416) (hL : Lies w w.heap.size A (l.map (.int .i64))) :
    Calls Try.prog 9 #[.slice A l.length c, .int .i64 x] w fun e w' => e = .returned (.tuple #[.int .i64 (fndV l x), .int .i64 (fndE l)]) ∧ ∃ d, w' = w.drewN d := by
  by_cases hb : 300 < l.length
  · rw [fndV, fndE, if_pos hb, if_pos hb]
    generalize l.length = n at *
    clear hL
    go_enter Try.func9, Try.ntmps9
    go_wp2
    go_ret2
    exact ⟨rfl, 0, rfl⟩
  · rw [fndV, fndE, if_neg hb, if_neg hb]
    have HI := Lib.hid (incr_any A l c w hn hL)
    have HC := Lib.hid (fun (h : inc l = true) d => less_count A l c x (w.drewN d) (by omega) (lt_le (inc_lt h)) (hL.drewN d))
    generalize cntL l x = r at *
    generalize l.length = n at *
    cases hi : inc l with
    | true =>
      have HC2 := Lib.hid (HC.out hi)
      rw [hi] at HI
      clear HC hi hL
      go_enter Try.func9, Try.ntmps9
      go_wp2_with (go_at_call 19; refine HI.out.mono ?_; rintro e w' ⟨rfl, d, rfl⟩)
      go_wp2_with (go_at_call 16; refine (HC2.out _).mono ?_; rintro e w' ⟨rfl, rfl⟩)
      go_ret2
      exact ⟨rfl, _, rfl⟩
    | false =>
      rw [hi] at HI
      clear HC hi hL
      go_enter Try.func9, Try.ntmps9
      go_wp2_with (go_at_call 19; refine HI.out.mono ?_; rintro e w' ⟨rfl, d, rfl⟩)
      go_ret2
      exact ⟨rfl, _, rfl⟩
/-- .. of a strictly increasing list. -/
theorem find_ok (A : Option Addr) (l : List Int) (c : Nat) (x : Int) (w : World) (hn : l.length ≤ 300) (hs : l.Pairwise (· < ·)) (hL : Lies w w.heap.size A (l.map (.int .i64))) :
    Calls Try.prog 9 #[.slice A l.length c, .int .i64 x] w fun e w' => e = .returned (.tuple #[.int .i64 (cntL l x : Nat), .int .i64 0]) ∧ ∃ d, w' = w.drewN d := by
  have h := find_any A l c x w (by omega) hL
  have e1 : fndV l x = (cntL l x : Int) := by unfold fndV; rw [if_neg (by omega), inc_of hs, if_pos rfl]
  have e2 : fndE l = 0 := by unfold fndE; rw [if_neg (by omega), inc_of hs, if_pos rfl]
  rwa [e1, e2] at h

set_option maxHeartbeats 1000000 in
/-- The document's RanksFind. -/
theorem rfind_any12 (A : Option Addr) (l : List Int) (c : Nat) (x : Int) (w : World) (hn : l.length ≤ 17592186044416) (hL : Lies w w.heap.size A (l.map (.int .i64))) :
    Calls Try.prog 10 #[.slice A l.length c, .int .i64 x] w fun e w' => e = .returned (.tuple #[.int .i64 (fndV l x), .int .i64 (fndE l)]) ∧ w = w' := by
  by_cases hb : 300 < l.length
  · rw [fndV, fndE, if_pos hb, if_pos hb]
    generalize l.length = n at *
    clear hL
    go_enter Try.func10, Try.ntmps10
    go_wp2
    go_ret2
    exact ⟨rfl, rfl⟩
  · rw [fndV, fndE, if_neg hb, if_neg hb]
    have HL := Lib.hid hL
    have HNo := Lib.hid (fun i a b (h0 : l[i]? = some a) (h1 : l[i + 1]? = some b) (h : b ≤ a) => inc_no h0 h1 h)
    have HYes := Lib.hid (fun (h : IncTo l l.length) => inc_yes h)
    have HT := Lib.hid (fun i v (h : l[i]? = some v) => cntL_take h x)
    have H0 := Lib.hid (show cntL (l.take 0) x = 0 from rfl)
    have HLen := Lib.hid (show cntL l x = cntL (l.take l.length) x by rw [List.take_length])
    obtain ⟨q, hq⟩ : ∃ q : Int, (if inc l = true then (cntL l x : Int) else 0) = q := ⟨_, rfl⟩
    obtain ⟨r, hr⟩ : ∃ r : Int, (if inc l = true then 0 else 4) = r := ⟨_, rfl⟩
    have HQ := Lib.hid hq
    have HR := Lib.hid hr
    have HC := Lib.hid (fun k => cntL_le (l.take k) x)
    obtain ⟨n, hnn⟩ : ∃ n, l.length = n := ⟨_, rfl⟩
    have HN := Lib.hid hnn
    rw [hq, hr]
    rw [hnn] at hn hb HLen HYes ⊢
    have hd : decide ((300 : Int) < (n : Int)) = false := by simp; omega
    clear hnn hL hq hr
    go_enter Try.func10, Try.ntmps10
    go_wp2
    go_loop [6, 14] (fun a u => ∃ i m : Nat, i ≤ n ∧ m ≤ i ∧ a = .int .i64 m ∧ u = .int .i64 i ∧ m = cntL (l.take i) x ∧ IncTo l i) (fun _ u => n - (intOf u).toNat)
    case atStart => exact ⟨0, 0, Nat.zero_le _, Nat.le_refl _, rfl, rfl, H0.out.symm, IncTo.zero l⟩
    case round =>
      obtain ⟨i, m, hi, hm, rfl, rfl, hcm, hin⟩ := hrel
      have HM := Lib.hid hcm
      have HI := Lib.hid hin
      clear hcm hin
      by_cases hlt : i < n
      · obtain ⟨b, o, y, rfl, hb1, hy, hc⟩ := HL.out.at_ (k := i) (by rw [HN.out]; exact hlt)
        have HY := Lib.hid hy
        clear hy
        have hstep : ∀ (m' : Nat), m' = m + (if y < x then 1 else 0) → m' ≤ i + 1 → IncTo l (i + 1) → (∃ i2 m2 : Nat, i2 ≤ n ∧ m2 ≤ i2 ∧ (Value.int .i64 (m' : Int)) = .int .i64 m2 ∧ (Value.int .i64 ((i + 1 : Nat) : Int)) = .int .i64 i2 ∧ m2 = cntL (l.take i2) x ∧ IncTo l i2) := fun m' e h2 h3 => ⟨i + 1, m', by omega, h2, rfl, rfl, by rw [HT.out i y HY.out, ← HM.out]; exact e, h3⟩
        have HSt := Lib.hid hstep
        clear hstep
        rcases Nat.eq_zero_or_pos i with h0 | h0
        · subst h0
          rw [Nat.add_zero] at hc
          by_cases hyx : y < x
          · go_wp2
            go_round
            case rel => exact HSt.out (m + 1) (by rw [if_pos hyx]) (by omega) (IncTo.one l)
            case measure => simp [intOf]; omega
          · go_wp2
            go_round
            case rel => exact HSt.out m (by rw [if_neg hyx]; rfl) (by omega) (IncTo.one l)
            case measure => simp [intOf]; omega
        · obtain ⟨k, hk⟩ : ∃ k, i = k + 1 := ⟨i - 1, by omega⟩
          have HK := Lib.hid hk
          have hsub : (i : Int) - 1 = (k : Int) := by omega
          have hkn : k < n := by omega
          obtain ⟨b2, o2, z, hA, hb2, hz, hc2⟩ := HL.out.at_ (k := k) (by rw [HN.out]; omega)
          obtain ⟨rfl, rfl⟩ : b = b2 ∧ o = o2 := by injection hA with hA; injection hA with h1 h2; exact ⟨h1, h2⟩
          have HZ := Lib.hid hz
          clear hz hA hk
          by_cases hle : y ≤ z
          · have HF := Lib.hid (HNo.out k z y HZ.out (by rw [← HK.out]; exact HY.out) hle)
            go_wp2
            go_ret2
            exact ⟨by rw [← HQ.out, ← HR.out, HF.out]; rfl, rfl⟩
          · have HIn := Lib.hid (show IncTo l (i + 1) by
              have h1 := HI.out
              rw [HK.out] at h1 ⊢
              exact h1.step HZ.out (by rw [← HK.out]; exact HY.out) (by omega))
            by_cases hyx : y < x
            · go_wp2
              go_round
              case rel => exact HSt.out (m + 1) (by rw [if_pos hyx]) (by omega) HIn.out
              case measure => simp [intOf]; omega
            · go_wp2
              go_round
              case rel => exact HSt.out m (by rw [if_neg hyx]; rfl) (by omega) HIn.out
              case measure => simp [intOf]; omega
      · obtain rfl : n = i := by omega
        have HF := Lib.hid (HYes.out HI.out)
        have HMM := Lib.hid (HLen.out.trans HM.out.symm)
        go_wp2
        go_ret2
        exact ⟨by rw [← HQ.out, ← HR.out, HF.out, if_pos rfl, if_pos rfl, HMM.out]; rfl, rfl⟩
end Go.Proofs.Ythdkhmmehdgonaa
