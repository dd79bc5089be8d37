/-
  What paren.Check and paren.checkIndex return: contracts, walked over the translated text. No condition but what each theorem names.
-/
import Derived.Test.YtdpcnbehjgpgeaaParChk
namespace Go.Proofs.Ytdpcnbehjgpgeaa
open Go.RowKit Words

theorem pcheck_size (bs : ByteArray) (w : World) (hn : 400 < bs.size) :
    Calls Try.prog 11 #[.string bs] w fun e w' => e = .returned (.int .i64 1) ∧ w = w' := by
  go_enter Try.func11, Try.ntmps11
  go_wp2_with fail
  go_ret
  exact ⟨rfl, rfl⟩

set_option maxHeartbeats 1000000 in
/-- paren.Check. -/
theorem pcheck_any (bs : ByteArray) (r : Int) (w : World) (hn : bs.size ≤ 400) (hg : Good7 bs → r = 0) (hb : ¬ Good7 bs → r = 4) :
    Calls Try.prog 11 #[.string bs] w fun e w' => e = .returned (.int .i64 r) ∧ w = w' := by
  have HG := Lib.hid hg
  have HB := Lib.hid hb
  have HI := Lib.hid (good7_iff bs)
  have HLen := Lib.hid (toL_length bs)
  clear hg hb
  go_enter Try.func11, Try.ntmps11
  go_wp2_with fail
  go_loop [3, 10] (fun a b => ∃ i : Nat, i ≤ bs.size ∧ a = .int .i64 (dp (toL bs) i) ∧ b = .int .i64 i ∧ (∀ j (hj : j < bs.size), j < i → (bs[j]'hj).toNat = 40 ∨ (bs[j]'hj).toNat = 41) ∧ ∀ j, j ≤ i → 0 ≤ dp (toL bs) j) (fun _ b => bs.size - (intOf b).toNat)
  case atStart => exact ⟨0, Nat.zero_le _, rfl, rfl, (fun j hj h => by omega), fun j hj => by obtain rfl : j = 0 := (by omega); exact Int.le_refl _⟩
  case round =>
    obtain ⟨i, hi, rfl, rfl, hP, hN⟩ := hrel
    have HP := Lib.hid hP
    have HN := Lib.hid hN
    have hd0 := hN i (Nat.le_refl _)
    have hd1 := dp_le (toL bs) i
    clear hP hN
    by_cases hlt : i < bs.size
    · have hget := toL_get bs hlt
      have HSt := Lib.hid (dp_succ hget)
      clear hget
      generalize hy : (bs[i]'hlt).toNat = y at *
      have HY := Lib.hid hy
      by_cases h40 : y = 40
      · subst h40
        rw [show stp ((40 : Nat) == 40) = 1 from rfl] at HSt
        generalize hdd : dp (toL bs) i = d at *
        have HD := Lib.hid hdd
        clear hdd
        go_wp2_with fail
        go_round
        case rel => exact ⟨i + 1, by omega, by rw [HSt.out], by go_num, (fun j hj h => by
          by_cases e : j = i
          · subst e; exact .inl HY.out
          · exact HP.out j hj (by omega)), fun j hj => by
          by_cases e : j = i + 1
          · rw [e, HSt.out]; omega
          · exact HN.out j (by omega)⟩
        case measure => simp [intOf]; omega
      · have e1 : ((y : Int) == 40) = false := by rw [beq_eq_false_iff_ne]; omega
        by_cases h41 : y = 41
        · subst h41
          rw [show stp ((41 : Nat) == 40) = -1 from rfl] at HSt
          generalize hdd : dp (toL bs) i = d at *
          have HD := Lib.hid hdd
          clear hdd
          by_cases hneg : d - 1 < 0
          · have HR := Lib.hid (HB.out fun hgo => by
              have h1 := (HI.out.1 hgo).2.nn (i + 1) (by rw [HLen.out]; omega)
              rw [HSt.out] at h1
              omega)
            have hd00 : d = 0 := by omega
            subst hd00
            go_wp2_with fail
            go_ret
            exact ⟨by rw [HR.out]; rfl, rfl⟩
          · have hpos : 0 < d := by omega
            go_wp2_with fail
            go_round
            case rel => exact ⟨i + 1, by omega, by rw [HSt.out]; rfl, by go_num, (fun j hj h => by
              by_cases e : j = i
              · subst e; exact .inr HY.out
              · exact HP.out j hj (by omega)), fun j hj => by
              by_cases e : j = i + 1
              · rw [e, HSt.out]; omega
              · exact HN.out j (by omega)⟩
            case measure => simp [intOf]; omega
        · have HR := Lib.hid (HB.out fun hgo => by
            rcases (HI.out.1 hgo).1 i hlt with e | e
            · rw [HY.out] at e; exact h40 e
            · rw [HY.out] at e; exact h41 e)
          have e2 : ((y : Int) == 41) = false := by rw [beq_eq_false_iff_ne]; omega
          generalize dp (toL bs) i = d at *
          go_wp2_with fail
          go_ret
          exact ⟨by rw [HR.out]; rfl, rfl⟩
    · obtain rfl : i = bs.size := by omega
      by_cases hz : dp (toL bs) bs.size = 0
      · have HR := Lib.hid (HG.out (HI.out.2 ⟨fun j hj => HP.out j hj hj, fun j hj => HN.out j (by rw [HLen.out] at hj; exact hj), by rw [HLen.out]; exact hz⟩))
        rw [hz]
        go_wp2_with fail
        go_ret
        exact ⟨by rw [HR.out]; rfl, rfl⟩
      · have HR := Lib.hid (HB.out fun hgo => hz (by have := (HI.out.1 hgo).2.zero; rwa [HLen.out] at this))
        have hz2 : 0 < dp (toL bs) bs.size := by omega
        generalize dp (toL bs) bs.size = d at *
        go_wp2_with fail
        go_ret
        exact ⟨by rw [HR.out]; rfl, rfl⟩

/-- A balanced text that is not too long has no fault. -/
theorem pcheck_ok {l : List Bool} (hn : l.length ≤ 400) (hb : Bal l) (W : World) : Calls Try.prog 11 #[.string (txtP l)] W fun e w' => e = .returned (.int .i64 0) ∧ W = w' :=
  pcheck_any (txtP l) 0 W (by rw [txtP_size]; exact hn) (fun _ => rfl) (fun h => absurd ⟨l, rfl, hb⟩ h)

theorem pidx_fault (bs : ByteArray) (i r : Int) (w : World) (hr : r ≠ 0) (h : ∀ W, Calls Try.prog 11 #[.string bs] W fun e w' => e = .returned (.int .i64 r) ∧ W = w') :
    Calls Try.prog 25 #[.string bs, .int .i64 i] w fun e w' => e = .returned (.int .i64 r) ∧ w = w' := by
  have H := Lib.hid h
  have hne : (r != 0) = true := by simpa using hr
  clear h hr
  go_enter Try.func25, Try.ntmps25
  go_wp2_with (go_at_call 11; refine (H.out _).mono ?_; rintro e w1 ⟨rfl, rfl⟩)
  go_ret
  exact ⟨rfl, rfl⟩

theorem pidx_range (bs : ByteArray) (i : Int) (w : World) (hi : i < 0 ∨ (bs.size : Int) ≤ i) (h : ∀ W, Calls Try.prog 11 #[.string bs] W fun e w' => e = .returned (.int .i64 0) ∧ W = w') :
    Calls Try.prog 25 #[.string bs, .int .i64 i] w fun e w' => e = .returned (.int .i64 2) ∧ w = w' := by
  have H := Lib.hid h
  clear h
  have hc : i < 0 ∨ (decide (i < 0) = false ∧ (bs.size : Int) ≤ i) := by
    by_cases h1 : i < 0
    · exact .inl h1
    · exact .inr ⟨by simpa using h1, by omega⟩
  clear hi
  rcases hc with h1 | ⟨h1, h2⟩
  all_goals
    go_enter Try.func25, Try.ntmps25
    go_wp2_with (go_at_call 11; refine (H.out _).mono ?_; rintro e w1 ⟨rfl, rfl⟩)
    go_ret
    exact ⟨rfl, rfl⟩

theorem pidx_ok (bs : ByteArray) (i : Nat) (w : World) (hi : i < bs.size) (h : ∀ W, Calls Try.prog 11 #[.string bs] W fun e w' => e = .returned (.int .i64 0) ∧ W = w') :
    Calls Try.prog 25 #[.string bs, .int .i64 i] w fun e w' => e = .returned (.int .i64 0) ∧ w = w' := by
  have H := Lib.hid h
  clear h
  have hd : decide (bs.size ≤ i) = false := by simp; omega
  go_enter Try.func25, Try.ntmps25
  go_wp2_with (go_at_call 11; refine (H.out _).mono ?_; rintro e w1 ⟨rfl, rfl⟩)
  go_ret
  exact ⟨rfl, rfl⟩
end Go.Proofs.Ytdpcnbehjgpgeaa
